/- Put together: MrkB, MrkC, OpenMark, OpenCrv, VaryMath, CurveMath5, VarA, TopTen. -/
import Derived.Test.YtagmknahmkniaacBun9
import Derived.Test.YtagmknahmkniaacBun6
import Derived.Test.YtagmknahmkniaacBun5
import Derived.Test.YtagmknahmkniaacBun3
import Derived.Test.YtagmknahmkniaacBun2
import Derived.Test.YtagmknahmkniaacBun4
import Derived.Test.YtagmknahmkniaacBun8
/- Contracts of layer 18: the prices of a quote. -/
namespace MK
theorem takes (l : List TP.Tick) {k : Nat} (h : k < l.length) : (l.take (k + 1)).map (·.price) = (l.take k).map (·.price) ++ [(TP.tAt l k).price] := by
  rw [TP.take_succ h, List.map_append]; rfl
end MK
namespace Go.Proofs.Ytagmknahmkniaac
open Go.RowKit Go.Recs
set_option linter.unusedVariables false
set_option linter.unusedSimpArgs false
theorem CB.grown {w w' : World} {g : Nat} {t : TypeId} {cs : Array Value} {r : Option Nat} (h : CB w g t cs) (hg : w.grownBy w' r) (hne : ∀ b, r = some b → b < g) : CB w' g t cs := by
  refine (hg.block g h.lt ?_).trans h
  intro e
  exact absurd (hne g e.symm) (Nat.lt_irrefl _) <;> rfl
theorem Own.lt {w : World} {B : Nat} {v : Value} {zs : List Int} (h : Own w B v zs) : ∀ b, v.ownBlock = some b → b < w.heap.size := fun k hk => (World.ownsRow.lt h k hk).2
/-- the sides as far as they were looked at -/
def sidesU (q : MK.Quote) (k : Nat) : List Int := if k = 0 then [] else if k = 1 then MK.side q.bid else MK.side q.bid ++ MK.side q.ask
theorem sides_one (q : MK.Quote) : sidesU q 1 = MK.side q.bid := rfl
theorem sides_two (q : MK.Quote) : sidesU q 2 = MK.side q.bid ++ MK.side q.ask := rfl
theorem side_no {x : Int} (h : x = 0) : MK.side x = [] := by unfold MK.side; rw [if_pos h]
theorem side_yes {x : Int} (h : ¬ x = 0) : MK.side x = [x] := by unfold MK.side; rw [if_neg h]
set_option maxRecDepth 100000 in
set_option maxHeartbeats 4000000 in
theorem checkprices_any (p : QM.Prod) (hp : prodQ p) (A : Option Addr) (cap : Nat) (q : MK.Quote) (hl : q.ticks.length ≤ 1048576) (hb : i64 q.bid) (ha : i64 q.ask) (hf : i64 q.before) (w : World) (hI : Ticks w A q.ticks) :
    Calls Try.prog 39 #[prodA p, qA A cap q] w fun e w' => e = .returned (.int .i64 (MK.firstE p (MK.prices q))) ∧ Below w.heap.size w w' := by
  have KF := Lib.hid (fun k => @MK.first_stop p (MK.prices q) k)
  have KS := Lib.hid (fun k => @MK.first_step p (MK.prices q) k)
  have KT : Hid (MK.firstE p ((MK.prices q).take (MK.prices q).length) = MK.firstE p (MK.prices q)) := Lib.hid (by rw [List.take_length])
  have KR : Hid (∀ x ∈ MK.prices q, -9223372036854775808 ≤ x ∧ x ≤ 9223372036854775807) := Lib.hid (by
    intro x hx
    unfold MK.prices MK.side at hx
    simp only [List.mem_append, List.mem_map, List.mem_singleton] at hx
    rcases hx with (⟨t, ht, rfl⟩ | hx | hx) | rfl
    · exact (hI.2 t ht).2.2
    · split at hx
      · simp at hx
      · simp at hx; subst hx; exact hb
    · split at hx
      · simp at hx
      · simp at hx; subst hx; exact ha
    · exact hf)
  have KL : Hid ((MK.prices q).length ≤ 1048579) := Lib.hid (by
    unfold MK.prices MK.side
    simp only [List.length_append, List.length_map, List.length_singleton]
    split <;> split <;> simp <;> omega)
  have KP : Hid (MK.prices q = (q.ticks.map (·.price) ++ MK.side q.bid ++ MK.side q.ask) ++ [q.before]) := Lib.hid (by unfold MK.prices; simp only [List.append_assoc])
  have CP := Lib.hid (fun x ww => qprice_any p x hp ww)
  have K1 := Lib.hid (fun k => @MK.takes q.ticks k)
  have K1E : Hid ((q.ticks.take q.ticks.length).map (·.price) = q.ticks.map (·.price)) := Lib.hid (by rw [List.take_length])
  have HB0 := Lib.hid (below_al (below_al (Below.refl w.heap.size w) (.cells #[.string p.name, .int .i64 p.cur, .int .i64 p.mult, .int .i64 p.tick, .int .i64 p.low, .int .i64 p.high, .bool p.phys] 23)) (.cells (qC A cap q) 26))
  have HP0 : Hid (PBox ((w.alloc (.cells #[.string p.name, .int .i64 p.cur, .int .i64 p.mult, .int .i64 p.tick, .int .i64 p.low, .int .i64 p.high, .bool p.phys] 23)).alloc (.cells (qC A cap q) 26)) w.heap.size p) := Lib.hid ((PBox.new w p).alloc _)
  have HQ0 := Lib.hid (CB.new1 w (.cells #[.string p.name, .int .i64 p.cur, .int .i64 p.mult, .int .i64 p.tick, .int .i64 p.low, .int .i64 p.high, .bool p.phys] 23) 26 (qC A cap q))
  have HI := Lib.hid hI
  have hlen := hI.len
  obtain ⟨c0, c1, c2, c3, c4, c5, c6, c7⟩ := quote_cells HQ0.out
  clear hI hp hb ha hf
  generalize MK.prices q = ps at *
  go_enter Try.func39, Try.ntmps39
  go_wp2_with fail
  generalize (w.alloc (.cells #[.string p.name, .int .i64 p.cur, .int .i64 p.mult, .int .i64 p.tick, .int .i64 p.low, .int .i64 p.high, .bool p.phys] 23)).alloc (.cells #[.slice A q.ticks.length cap, .int .i64 q.from_, .int .i64 q.to_, .int .i64 q.least, .int .i64 q.bid, .int .i64 q.ask, .int .i64 q.before, .int .i64 q.move] 26) = w0 at *
  have HI0 := Lib.hid (HI.out.below HB0.out)
  clear c0 c1 c2 c3 c4 c5 c6 c7
  go_loopw [5, 7, 16] (fun v _ i wr => ∃ k : Nat, k ≤ q.ticks.length ∧ i = .int .i64 (k : Int) ∧ Hid (Own wr w0.heap.size v ((q.ticks.take k).map (·.price))) ∧ Hid (Below w0.heap.size w0 wr)) (fun _ _ i _ => q.ticks.length - (intOf i).toNat)
  case atStart => exact ⟨0, by omega, rfl, Lib.hid (Own.nil _ _), Lib.hid (Below.refl _ _)⟩
  case round =>
    obtain ⟨k, hk, rfl, HO, HB⟩ := hrel
    by_cases hlt : k < q.ticks.length
    · obtain ⟨b, off, x, rfl, hb, HV, ⟨q0, q1, q2⟩, d0, d1, d2⟩ := ticks_get (HI0.out.below HB.out) hlt
      have hX := CB.new wr 102 (tickC x)
      have f0 := hX.cell 0
      have f1 := hX.cell 1
      have f2 := hX.cell 2
      simp only [List.getElem?_toArray, List.getElem?_cons_zero, List.getElem?_cons_succ] at f0 f1 f2
      have HBx := HB.out.alloc HB.out.size (.cells (tickC x) 102)
      have HOx := HO.out.alloc (.cells (tickC x) 102)
      have HW : Hid ((q.ticks.take (k + 1)).map (·.price) = (q.ticks.take k).map (·.price) ++ [x.price]) := Lib.hid (by rw [K1.out k hlt, HV.out])
      have hwl : ((q.ticks.take k).map (·.price)).length < 1099511627776 := by rw [List.length_map, List.length_take]; omega
      obtain ⟨wa, hwa⟩ : ∃ wa, wr.alloc (.cells #[.int .i64 x.time, .int .i64 x.qty, .int .i64 x.price] 102) = wa := ⟨_, rfl⟩
      rw [hwa] at f0 f1 f2
      have HBa := Lib.hid (hwa ▸ HBx : Below w0.heap.size w0 wa)
      have HOa := Lib.hid (hwa ▸ HOx : Own wa w0.heap.size _ ((q.ticks.take k).map (·.price)))
      clear hX HBx HOx HV HO HB q0 q1 q2
      generalize (q.ticks.take k).map (·.price) = zs at *
      go_wp2_with (at_builtin; refine wpList_push _ x.price w0.heap.size zs _ _ rfl rfl _ rfl rfl HOa.out ?c1 HBa.out.size ?_)
      case c1 => exact hwl
      intro v4 w4 o4 b4 _ _
      have HO4 : Hid (Own w4 w0.heap.size v4 ((q.ticks.take (k + 1)).map (·.price))) := Lib.hid (by rw [HW.out]; exact o4)
      have HB4 := Lib.hid (HBa.out.trans b4)
      clear o4 b4 HOa HBa f0 f1 f2 d0 d1 d2 hwa hwl
      go_wp2_with fail
      go_roundw
      case rel => exact ⟨k + 1, by omega, by go_num, HO4, HB4⟩
      case measure => simp [intOf]; omega
    · obtain rfl : k = q.ticks.length := by omega
      rw [K1E.out] at HO
      clear K1 K1E
      generalize hbase : q.ticks.map (·.price) = base at *
      have HLN : Hid (∀ k, k ≤ 2 → (base ++ sidesU q k).length ≤ 1048578) := Lib.hid (fun k hk => by
        rw [← hbase, List.length_append, List.length_map]
        unfold sidesU MK.side
        repeat' split
        all_goals (simp; try omega))
      clear hbase
      generalize wr = w2 at *
      obtain ⟨c0, c1, c2, c3, c4, c5, c6, c7⟩ := quote_cells (HQ0.out.below HB.out HQ0.out.lt)
      have HO0 := HO.out.alloc (.cells #[.int .i64 q.bid, .int .i64 q.ask] 3)
      have HB0' := HB.out.alloc HB.out.size (.cells #[.int .i64 q.bid, .int .i64 q.ask] 3)
      have HL0 := CB.new w2 3 #[.int .i64 q.bid, .int .i64 q.ask]
      have HN0 := Own.lt HO.out
      have HO1 : Hid (Own (w2.alloc (.cells #[.int .i64 q.bid, .int .i64 q.ask] 3)) w0.heap.size _ (base ++ sidesU q 0)) := Lib.hid (by rw [show sidesU q 0 = [] from rfl, List.append_nil]; exact HO0)
      have HB1 := Lib.hid HB0'
      have HL1 := Lib.hid HL0
      have HN1 := Lib.hid HN0
      clear HO0 HB0' HL0 HN0 HO HB
      go_wp2_with fail
      go_loopw [5, 9, 32] (fun v _ i wr => ∃ k : Nat, k ≤ 2 ∧ i = .int .i64 (k : Int) ∧ Hid (Own wr w0.heap.size v (base ++ sidesU q k)) ∧ Hid (Below w0.heap.size w0 wr) ∧ Hid (k < 2 → CB wr w2.heap.size 3 #[.int .i64 q.bid, .int .i64 q.ask]) ∧ Hid (k = 0 → ∀ b, v.ownBlock = some b → b < w2.heap.size)) (fun _ _ i _ => 2 - (intOf i).toNat)
      case atStart => exact ⟨0, by omega, rfl, HO1, HB1, Lib.hid (fun _ => HL1.out), Lib.hid (fun _ => HN1.out)⟩
      case round =>
        clear HO1 HB1 HL1 HN1 c0 c1 c2 c3 c4 c5 c6 c7
        obtain ⟨k, hk, rfl, HO, HB, HL, HN⟩ := hrel
        rcases (by omega : k = 0 ∨ k = 1 ∨ k = 2) with rfl | rfl | rfl
        · --0
          obtain ⟨x, hx⟩ : ∃ x, q.bid = x := ⟨_, rfl⟩
          have HC := Lib.hid (HL.out (by omega))
          have c0 : wr.cell? ⟨w2.heap.size, 0, none⟩ = some (.int .i64 x) := by rw [← hx]; exact HC.out.cell 0
          have hg2 : w2.heap.size < wr.heap.size := HC.out.lt
          have HX := Lib.hid hx
          clear hx
          by_cases h0 : x = 0
          · have e1 : (x != 0) = false := by simp [h0]
            have HS : Hid (sidesU q 1 = sidesU q 0) := Lib.hid (by rw [sides_one, HX.out, side_no h0]; rfl)
            clear h0
            go_wp2_with fail
            go_roundw
            case rel => exact ⟨1, by omega, by go_num, Lib.hid (by rw [HS.out]; exact HO.out), HB, Lib.hid (fun _ => HC.out), Lib.hid (fun h => absurd h (by omega))⟩
            case measure => simp [intOf]
          · have e1 : (x != 0) = true := by simpa using h0
            have HS : Hid (sidesU q 1 = sidesU q 0 ++ [x]) := Lib.hid (by rw [sides_one, HX.out, side_yes h0]; rfl)
            have hwl : (base ++ sidesU q 0).length < 1099511627776 := by have := HLN.out 0 (by omega); omega
            clear h0
            go_wp2_with (at_builtin; refine wpList_push _ x w0.heap.size (base ++ sidesU q 0) _ _ rfl rfl _ rfl rfl HO.out ?c1 HB.out.size ?_)
            case c1 => simpa using hwl
            intro v4 w4 o4 b4 _ g4
            have HO4 : Hid (Own w4 w0.heap.size v4 (base ++ sidesU q 1)) := Lib.hid (by rw [HS.out]; simpa using o4)
            have HB4 := Lib.hid (HB.out.trans b4)
            have HC4 := Lib.hid (HC.out.grown g4 (HN.out (by first | rfl | trivial)))
            clear o4 b4 g4 c0
            go_wp2_with fail
            go_roundw
            case rel => exact ⟨1, by omega, by go_num, HO4, HB4, Lib.hid (fun _ => HC4.out), Lib.hid (fun h => absurd h (by omega))⟩
            case measure => simp [intOf]
        · --1
          obtain ⟨x, hx⟩ : ∃ x, q.ask = x := ⟨_, rfl⟩
          have HC := Lib.hid (HL.out (by omega))
          have c0 : wr.cell? ⟨w2.heap.size, 1, none⟩ = some (.int .i64 x) := by rw [← hx]; exact HC.out.cell 1
          have hg2 : w2.heap.size < wr.heap.size := HC.out.lt
          have HX := Lib.hid hx
          clear hx
          by_cases h0 : x = 0
          · have e1 : (x != 0) = false := by simp [h0]
            have HS : Hid (sidesU q 2 = sidesU q 1) := Lib.hid (by rw [sides_two, sides_one, HX.out, side_no h0, List.append_nil])
            clear h0
            go_wp2_with fail
            go_roundw
            case rel => exact ⟨2, by omega, by go_num, Lib.hid (by rw [HS.out]; exact HO.out), HB, Lib.hid (fun h => absurd h (by omega)), Lib.hid (fun h => absurd h (by omega))⟩
            case measure => simp [intOf]
          · have e1 : (x != 0) = true := by simpa using h0
            have HS : Hid (sidesU q 2 = sidesU q 1 ++ [x]) := Lib.hid (by rw [sides_two, sides_one, HX.out, side_yes h0])
            have hwl : (base ++ sidesU q 1).length < 1099511627776 := by have := HLN.out 1 (by omega); omega
            clear h0
            go_wp2_with (at_builtin; refine wpList_push _ x w0.heap.size (base ++ sidesU q 1) _ _ rfl rfl _ rfl rfl HO.out ?c1 HB.out.size ?_)
            case c1 => simpa using hwl
            intro v4 w4 o4 b4 _ g4
            have HO4 : Hid (Own w4 w0.heap.size v4 (base ++ sidesU q 2)) := Lib.hid (by rw [HS.out]; simpa using o4)
            have HB4 := Lib.hid (HB.out.trans b4)
            clear o4 b4 g4 c0
            go_wp2_with fail
            go_roundw
            case rel => exact ⟨2, by omega, by go_num, HO4, HB4, Lib.hid (fun h => absurd h (by omega)), Lib.hid (fun h => absurd h (by omega))⟩
            case measure => simp [intOf]
        · generalize wr = w3 at *
          have hQ3 := HQ0.out.below HB.out HQ0.out.lt
          obtain ⟨c0, c1, c2, c3, c4, c5, c6, c7⟩ := quote_cells hQ3
          have hlast : (base ++ sidesU q 2).length < 1099511627776 := by have := HLN.out 2 (by omega); omega
          clear HL HN
          generalize hz : base ++ sidesU q 2 = zs at *
          have HPZ : Hid (zs ++ [q.before] = ps) := Lib.hid (by rw [KP.out, ← hz, sides_two, ← List.append_assoc])
          clear hz HLN hQ3
          go_wp2_with (at_builtin; refine wpList_push _ q.before w0.heap.size zs _ _ rfl rfl _ rfl rfl HO.out ?c1 HB.out.size ?_)
          case c1 => exact hlast
          intro v5 w5 o5 b5 _ _
          have HB5 := Lib.hid (HB.out.trans b5)
          rw [HPZ.out] at o5
          obtain ⟨A5, k5, rfl, hI5⟩ := Own.ints o5 KR.out
          have HI5 := Lib.hid hI5
          clear o5 b5 HO HB c0 c1 c2 c3 c4 c5 c6 c7 hI5 HPZ KP KR
          have hNl := KL.out
          go_wp2_with fail
          go_loopw [11, 12, 49] (fun _ _ i wr => ∃ k : Nat, k ≤ ps.length ∧ i = .int .i64 (k : Int) ∧ Hid (MK.firstE p (ps.take k) = 0) ∧ Hid (Below w5.heap.size w5 wr)) (fun _ _ i _ => ps.length - (intOf i).toNat)
          case atStart => exact ⟨0, by omega, rfl, Lib.hid rfl, Lib.hid (Below.refl _ _)⟩
          case round =>
            obtain ⟨k, hk, rfl, HE, HW⟩ := hrel
            have HBW := Lib.hid (HB5.out.trans (HW.out.mono HB5.out.size))
            by_cases hlt : k < ps.length
            · obtain ⟨b, off, x, rfl, hb, d0, HV, x1, x2⟩ := (HI5.out.below HW.out).get hlt
              obtain ⟨c0, c1, c2, c3, c4, c5, c6⟩ := (HP0.out.below HBW.out HP0.out.lt).cells
              have C := Lib.hid (fun ww => CP.out x ww)
              have HF := Lib.hid (KF.out k hlt HE.out)
              have HS := Lib.hid (KS.out k hlt HE.out)
              have HV2 : Hid (MK.xAt ps k = x) := Lib.hid HV.out
              rw [HV2.out] at HF HS
              generalize QM.priceE p x = pe at *
              clear HV HV2 HE
              go_wp2_with fail
              refine (C.out _).mono ?_
              rintro e w6 ⟨rfl, b6⟩
              have HW6 := Lib.hid (HW.out.trans (b6.mono HW.out.size))
              clear b6 c0 c1 c2 c3 c4 c5 c6 d0
              by_cases hpe : pe = 0
              · have HZ := Lib.hid (HS.out hpe)
                subst hpe
                go_wp2_with fail
                go_roundw
                case rel => exact ⟨k + 1, by omega, by go_num, HZ, HW6⟩
                case measure => simp [intOf]; omega
              · have HX := Lib.hid (HF.out hpe)
                have hne : (pe != 0) = true := by simpa using hpe
                have HBF := Lib.hid (HB0.out.trans ((HB5.out.trans (HW6.out.mono HB5.out.size)).mono HB0.out.size))
                clear hpe
                go_wp2_with fail
                go_ret
                exact ⟨by rw [HX.out] <;> rfl, HBF.out⟩
            · obtain rfl : k = ps.length := by omega
              have HX : Hid (MK.firstE p ps = 0) := Lib.hid (by rw [← KT.out]; exact HE.out)
              have HBF := Lib.hid (HB0.out.trans (HBW.out.mono HB0.out.size))
              go_wp2_with fail
              go_ret
              exact ⟨by rw [HX.out] <;> rfl, HBF.out⟩
end Go.Proofs.Ytagmknahmkniaac

/- Contracts of layer 18: Check. -/
namespace Go.Proofs.Ytagmknahmkniaac
open Go.RowKit Go.Recs
set_option linter.unusedVariables false
set_option linter.unusedSimpArgs false
def quoteQ (q : MK.Quote) : Prop := i64 q.from_ ∧ i64 q.to_ ∧ i64 q.least ∧ i64 q.bid ∧ i64 q.ask ∧ i64 q.before ∧ i64 q.move
set_option maxRecDepth 100000 in
set_option maxHeartbeats 8000000 in
theorem mcheck18_any (p : QM.Prod) (hp : prodQ p) (A : Option Addr) (cap : Nat) (q : MK.Quote) (hq : quoteQ q) (w : World) (hI : Ticks w A q.ticks) :
    Calls Try.prog 14 #[prodA p, qA A cap q] w fun e w' => e = .returned (.int .i64 (MK.qE p q)) ∧ Below w.heap.size w w' := by
  have CP := Lib.hid (fun ww => qcheck_any p hp ww)
  have CT := Lib.hid (fun ww h => tcheck_any A q.ticks q.ticks.length cap rfl ww h)
  have CW := Lib.hid (fun n a b ww => within18_any n a b ww)
  have CF := Lib.hid (fun (hl : q.ticks.length ≤ 1048576) ww h => checkprices_any p hp A cap q hl hq.2.2.2.1 hq.2.2.2.2.1 hq.2.2.2.2.2.1 ww h)
  have CB := Lib.hid (fun ww => hasboth_any A cap q ww)
  have CI := Lib.hid (fun ww => isprice18_any q.move ww)
  have KP := Lib.hid (@MK.q_prod p q); have KT := Lib.hid (@MK.q_tape p q); have KM := Lib.hid (@MK.q_time p q); have KL := Lib.hid (@MK.q_least p q); have KF := Lib.hid (@MK.q_first p q); have KC := Lib.hid (@MK.q_last p q); have KO := Lib.hid (@MK.q_ok p q)
  have KG : Hid (TP.allE q.ticks = 0 → q.ticks.length ≤ 1048576) := Lib.hid (fun h => by have := (TP.good h).len; omega)
  have HB0 := Lib.hid (below_al (below_al (Below.refl w.heap.size w) (.cells #[.string p.name, .int .i64 p.cur, .int .i64 p.mult, .int .i64 p.tick, .int .i64 p.low, .int .i64 p.high, .bool p.phys] 23)) (.cells (qC A cap q) 26))
  have HP0 : Hid (PBox ((w.alloc (.cells #[.string p.name, .int .i64 p.cur, .int .i64 p.mult, .int .i64 p.tick, .int .i64 p.low, .int .i64 p.high, .bool p.phys] 23)).alloc (.cells (qC A cap q) 26)) w.heap.size p) := Lib.hid ((PBox.new w p).alloc _)
  have HQ0 := Lib.hid (Proofs.Ytagmknahmkniaac.CB.new1 w (.cells #[.string p.name, .int .i64 p.cur, .int .i64 p.mult, .int .i64 p.tick, .int .i64 p.low, .int .i64 p.high, .bool p.phys] 23) 26 (qC A cap q))
  have HI := Lib.hid (hI.below HB0.out)
  obtain ⟨c0, c1, c2, c3, c4, c5, c6, c7⟩ := quote_cells HQ0.out
  obtain ⟨d0, d1, d2, d3, d4, d5, d6⟩ := HP0.out.cells
  have hm1 : MK.timeB q = (QM.within q.from_ 0 86399 && QM.within q.to_ q.from_ 86399) := rfl
  have hm2 : MK.lastB q = ((MK.both q && decide (q.ask < q.bid)) || !MK.isP q.move) := rfl
  have HM1 := Lib.hid hm1; have HM2 := Lib.hid hm2
  clear hI hp hq hm1 hm2
  generalize QM.checkE p = ep at *
  generalize TP.allE q.ticks = et at *
  generalize MK.timeB q = bt at *
  generalize MK.firstE p (MK.prices q) = ef at *
  generalize MK.lastB q = bl at *
  generalize MK.qE p q = x at *
  go_enter Try.func14, Try.ntmps14
  go_wp2_with fail
  generalize (w.alloc (.cells #[.string p.name, .int .i64 p.cur, .int .i64 p.mult, .int .i64 p.tick, .int .i64 p.low, .int .i64 p.high, .bool p.phys] 23)).alloc (.cells #[.slice A q.ticks.length cap, .int .i64 q.from_, .int .i64 q.to_, .int .i64 q.least, .int .i64 q.bid, .int .i64 q.ask, .int .i64 q.before, .int .i64 q.move] 26) = w0 at *
  refine (CP.out _).mono ?_
  rintro e w1 ⟨rfl, b1⟩
  have HB1 := Lib.hid (HB0.out.trans (b1.mono HB0.out.size))
  have HP1 := Lib.hid (HP0.out.below b1 HP0.out.lt)
  have HQ1 := Lib.hid (HQ0.out.below b1 HQ0.out.lt)
  have HI1 := Lib.hid (HI.out.below b1)
  clear b1 c0 c1 c2 c3 c4 c5 c6 c7 d0 d1 d2 d3 d4 d5 d6 HP0 HQ0 HI HB0
  by_cases hep : ep = 0
  · subst hep
    obtain ⟨c0, c1, c2, c3, c4, c5, c6, c7⟩ := quote_cells HQ1.out
    go_wp2_with fail
    refine (CT.out _ HI1.out).mono ?_
    rintro e w2 ⟨rfl, b2⟩
    have HB2 := Lib.hid (HB1.out.trans (b2.mono HB1.out.size))
    have HP2 := Lib.hid (HP1.out.below b2 HP1.out.lt)
    have HQ2 := Lib.hid (HQ1.out.below b2 HQ1.out.lt)
    have HI2 := Lib.hid (HI1.out.below b2)
    clear b2 c0 c1 c2 c3 c4 c5 c6 c7 HP1 HQ1 HI1 HB1
    by_cases het : et = 0
    · subst het
      have hln := KG.out rfl
      obtain ⟨c0, c1, c2, c3, c4, c5, c6, c7⟩ := quote_cells HQ2.out
      obtain ⟨d0, d1, d2, d3, d4, d5, d6⟩ := HP2.out.cells
      go_wp2_with fail
      refine (CW.out _ _ _ _).mono ?_
      rintro e w3 ⟨rfl, rfl⟩
      cases g1 : QM.within q.from_ 0 86399
      · have HX := Lib.hid (KM.out (by trivial) (by trivial) (by rw [HM1.out, g1]; rfl))
        clear g1
        go_wp2_with fail
        go_ret
        exact ⟨by rw [HX.out] <;> rfl, HB2.out⟩
      go_wp2_with fail
      refine (CW.out _ _ _ _).mono ?_
      rintro e w3 ⟨rfl, rfl⟩
      cases g2 : QM.within q.to_ q.from_ 86399
      · have HX := Lib.hid (KM.out (by trivial) (by trivial) (by rw [HM1.out, g1, g2]; rfl))
        clear g1 g2
        go_wp2_with fail
        go_ret
        exact ⟨by rw [HX.out] <;> rfl, HB2.out⟩
      have HT : Hid (bt = true) := Lib.hid (by rw [HM1.out, g1, g2]; rfl)
      clear g1 g2
      go_wp2_with fail
      refine (CW.out _ _ _ _).mono ?_
      rintro e w3 ⟨rfl, rfl⟩
      cases g3 : QM.within q.least 1 1048576
      · have HX := Lib.hid (KL.out (by trivial) (by trivial) HT.out g3)
        clear g3
        go_wp2_with fail
        go_ret
        exact ⟨by rw [HX.out] <;> rfl, HB2.out⟩
      have HL := Lib.hid g3
      clear g3
      go_wp2_with fail
      refine (CF.out hln _ HI2.out).mono ?_
      rintro e w4 ⟨rfl, b4⟩
      have HB4 := Lib.hid (HB2.out.trans (b4.mono HB2.out.size))
      have HQ4 := Lib.hid (HQ2.out.below b4 HQ2.out.lt)
      clear b4 c0 c1 c2 c3 c4 c5 c6 c7 d0 d1 d2 d3 d4 d5 d6 HP2 HQ2 HI2 HB2
      by_cases hef : ef = 0
      · subst hef
        obtain ⟨c0, c1, c2, c3, c4, c5, c6, c7⟩ := quote_cells HQ4.out
        have KC2 := Lib.hid (KC.out (by trivial) (by trivial) HT.out HL.out (by trivial))
        have KO2 := Lib.hid (KO.out (by trivial) (by trivial) HT.out HL.out (by trivial))
        go_wp2_with fail
        refine (CB.out _).mono ?_
        rintro e w5 ⟨rfl, b5⟩
        have HB5 := Lib.hid (HB4.out.trans (b5.mono HB4.out.size))
        have HQ5 := Lib.hid (HQ4.out.below b5 HQ4.out.lt)
        clear b5 c0 c1 c2 c3 c4 c5 c6 c7 HQ4 HB4
        obtain ⟨c0, c1, c2, c3, c4, c5, c6, c7⟩ := quote_cells HQ5.out
        cases hb : MK.both q
        · go_wp2_with fail
          refine (CI.out _).mono ?_
          rintro e w6 ⟨rfl, rfl⟩
          cases hi : MK.isP q.move
          · have HX := Lib.hid (KC2.out (by rw [HM2.out, hb, hi]; rfl))
            clear hb hi
            go_wp2_with fail
            go_ret
            exact ⟨by rw [HX.out] <;> rfl, HB5.out⟩
          · have HX := Lib.hid (KO2.out (by rw [HM2.out, hb, hi]; rfl))
            clear hb hi
            go_wp2_with fail
            go_ret
            exact ⟨by rw [HX.out] <;> rfl, HB5.out⟩
        · by_cases hlt : q.ask < q.bid
          · have HX := Lib.hid (KC2.out (by rw [HM2.out, hb, decide_eq_true hlt]; rfl))
            clear hb
            go_wp2_with fail
            go_ret
            exact ⟨by rw [HX.out] <;> rfl, HB5.out⟩
          · have hd : decide (q.ask < q.bid) = false := decide_eq_false hlt
            go_wp2_with fail
            refine (CI.out _).mono ?_
            rintro e w6 ⟨rfl, rfl⟩
            cases hi : MK.isP q.move
            · have HX := Lib.hid (KC2.out (by rw [HM2.out, hb, hi, hd]; rfl))
              clear hb hi
              go_wp2_with fail
              go_ret
              exact ⟨by rw [HX.out] <;> rfl, HB5.out⟩
            · have HX := Lib.hid (KO2.out (by rw [HM2.out, hb, hi, hd]; rfl))
              clear hb hi
              go_wp2_with fail
              go_ret
              exact ⟨by rw [HX.out] <;> rfl, HB5.out⟩
      · have HX := Lib.hid (KF.out (by trivial) (by trivial) HT.out HL.out hef)
        have hne : (ef != 0) = true := by simpa using hef
        clear hef
        go_wp2_with fail
        go_ret
        exact ⟨by rw [HX.out] <;> rfl, HB4.out⟩
    · have HX := Lib.hid (KT.out (by trivial) het)
      have hne : (et != 0) = true := by simpa using het
      clear het
      go_wp2_with fail
      go_ret
      exact ⟨by rw [HX.out] <;> rfl, HB2.out⟩
  · have HX := Lib.hid (KP.out hep)
    have hne : (ep != 0) = true := by simpa using hep
    clear hep
    go_wp2_with fail
    go_ret
    exact ⟨by rw [HX.out] <;> rfl, HB1.out⟩
end Go.Proofs.Ytagmknahmkniaac

/- A law's arguments: a quote by value. -/
namespace Go.Proofs.Ytagmknahmkniaac
open Go.ChangeShapes Go.WideShapes Go.ChangeAt Go.RowKit Go.Recs
set_option linter.unusedVariables false
set_option maxRecDepth 100000
theorem ticks_cells {H : Type} {enc : TypeId × Value → H} {W : World} {base : Nat} {spare : Nat → Bool} {held : Bool} {k : Nat} {cs : List Value} {y : DataW H × List MemPlace}
    (h : DataW.trod enc Try.prog W base spare held k 24 cs = some y) : ∃ A cap, ∃ l : List TP.Tick, cs = [.slice A l.length cap] ∧ Ticks W A l := by
  obtain ⟨A, cap, rows, rfl, hR, hc, ds, sp, h1, h2, h3⟩ := open_rows (sz := 3) (R := fun r _ => okAll tickL r) Try.underlying24 (by kernel_rfl) (by omega) (fun k cs y hl hy => leafs_ok 2 _ tickL tick_leafs k cs y hl hy) h
  have hall : ∀ r ∈ rows, okAll tickL r := by
    intro r hr
    obtain ⟨i, hi, rfl⟩ := List.mem_iff_getElem.1 hr
    have := h3 i hi
    simpa [List.getD, hi] using this
  obtain ⟨l, rfl, hq⟩ := typed (ls := tickL) tickV _ tick_row rows hall
  rw [List.length_map] at hc h2 ⊢
  exact ⟨A, cap, l, rfl, hR, hq⟩
theorem open_quoteV {H : Type} {enc : TypeId × Value → H} {W : World} {base b0 : Nat} {spare : Nat → Bool} {held : Bool} {r : Reach} {v : Value} {d : DataW H} {p : List MemPlace}
    (hv : Value.okWide Try.prog W r b0 26 v) (h : DataW.Trod enc Try.prog W base spare held 26 v d p) :
    ∃ A cap, ∃ q : MK.Quote, v = .agg #[.slice A q.ticks.length cap, .int .i64 q.from_, .int .i64 q.to_, .int .i64 q.least, .int .i64 q.bid, .int .i64 q.ask, .int .i64 q.before, .int .i64 q.move] ∧ (Ticks W A q.ticks ∧ quoteQ q) := by
  have ht := Try.underlying26
  have hz : Try.prog.cellsOf 26 = 8 := by kernel_rfl
  obtain ⟨cs, rfl, hs, _⟩ : ∃ cs, v = .agg cs ∧ cs.size = Try.prog.cellsOf 26 ∧ Row.okWide Try.prog W r b0 26 cs := by
    simpa [Value.okWide, ht] using hv
  obtain ⟨fuel, hf⟩ := h
  have hf' : DataW.trod enc Try.prog W base spare held fuel 26 cs.toList = some _ := hf
  obtain ⟨xs, n, _, hxd, _, hxl, hfl⟩ := DataW.trod_struct ht hf'
  have z3 : Try.prog.cellsOf 3 = 1 := by kernel_rfl
  have zs : Try.prog.cellsOf 24 = 1 := by kernel_rfl
  obtain ⟨cl, hcl⟩ : ∃ cl : List Value, cs.toList = cl := ⟨_, rfl⟩
  have hl8 : cl.length = 8 := by rw [← hcl]; simp; omega
  obtain rfl : cs = cl.toArray := by rw [← hcl]
  have h0 := hfl 0 _ rfl
  have h1 := hfl 1 _ rfl
  have h2 := hfl 2 _ rfl
  have h3 := hfl 3 _ rfl
  have h4 := hfl 4 _ rfl
  have h5 := hfl 5 _ rfl
  have h6 := hfl 6 _ rfl
  have h7 := hfl 7 _ rfl
  match xs, hxl with
  | [x0, x1, x2, x3, x4, x5, x6, x7], _ =>
  match cl, hl8 with
  | [c0, c1, c2, c3, c4, c5, c6, c7], _ =>
    have h0' : DataW.trod enc Try.prog W base spare held n 24 ([c0, c1, c2, c3, c4, c5, c6, c7].take (Try.prog.cellsOf 24)) = some x0 := h0
    have h1' : DataW.trod enc Try.prog W base spare held n 3 ([c1, c2, c3, c4, c5, c6, c7].take (Try.prog.cellsOf 3)) = some x1 := h1
    have h2' : DataW.trod enc Try.prog W base spare held n 3 ([c2, c3, c4, c5, c6, c7].take (Try.prog.cellsOf 3)) = some x2 := h2
    have h3' : DataW.trod enc Try.prog W base spare held n 3 ([c3, c4, c5, c6, c7].take (Try.prog.cellsOf 3)) = some x3 := h3
    have h4' : DataW.trod enc Try.prog W base spare held n 3 ([c4, c5, c6, c7].take (Try.prog.cellsOf 3)) = some x4 := h4
    have h5' : DataW.trod enc Try.prog W base spare held n 3 ([c5, c6, c7].take (Try.prog.cellsOf 3)) = some x5 := h5
    have h6' : DataW.trod enc Try.prog W base spare held n 3 ([c6, c7].take (Try.prog.cellsOf 3)) = some x6 := h6
    have h7' : DataW.trod enc Try.prog W base spare held n 3 ([c7].take (Try.prog.cellsOf 3)) = some x7 := h7
    rw [zs] at h0'; rw [z3] at h1' h2' h3' h4' h5' h6' h7'
    obtain ⟨A, cap, l, hc0, hT⟩ := ticks_cells h0'
    obtain ⟨m1, hm1, _, q1⟩ := DataW.trod_int Try.underlying3 h1'
    obtain ⟨m2, hm2, _, q2⟩ := DataW.trod_int Try.underlying3 h2'
    obtain ⟨m3, hm3, _, q3⟩ := DataW.trod_int Try.underlying3 h3'
    obtain ⟨m4, hm4, _, q4⟩ := DataW.trod_int Try.underlying3 h4'
    obtain ⟨m5, hm5, _, q5⟩ := DataW.trod_int Try.underlying3 h5'
    obtain ⟨m6, hm6, _, q6⟩ := DataW.trod_int Try.underlying3 h6'
    obtain ⟨m7, hm7, _, q7⟩ := DataW.trod_int Try.underlying3 h7'
    have e0 : c0 = .slice A l.length cap := by simpa using hc0
    have e1 : c1 = .int .i64 m1 := by simpa using hm1
    have e2 : c2 = .int .i64 m2 := by simpa using hm2
    have e3 : c3 = .int .i64 m3 := by simpa using hm3
    have e4 : c4 = .int .i64 m4 := by simpa using hm4
    have e5 : c5 = .int .i64 m5 := by simpa using hm5
    have e6 : c6 = .int .i64 m6 := by simpa using hm6
    have e7 : c7 = .int .i64 m7 := by simpa using hm7
    subst e0 e1 e2 e3 e4 e5 e6 e7
    exact ⟨A, cap, ⟨l, m1, m2, m3, m4, m5, m6, m7⟩, rfl, hT, bounds_i64 q1, bounds_i64 q2, bounds_i64 q3, bounds_i64 q4, bounds_i64 q5, bounds_i64 q6, bounds_i64 q7⟩
end Go.Proofs.Ytagmknahmkniaac

/- A law's arguments: a curve, a day and lots, by value. -/
namespace UM
structure Crv where
  pts : List Pt
  day : Int
  net : Int
end UM
namespace Go.Proofs.Ytagmknahmkniaac
open Go.ChangeShapes Go.WideShapes Go.ChangeAt Go.RowKit Go.Recs
set_option linter.unusedVariables false
set_option maxRecDepth 100000
theorem pts_cells {H : Type} {enc : TypeId × Value → H} {W : World} {base : Nat} {spare : Nat → Bool} {held : Bool} {k : Nat} {cs : List Value} {y : DataW H × List MemPlace}
    (h : DataW.trod enc Try.prog W base spare held k 27 cs = some y) : ∃ A cap, ∃ l : List UM.Pt, cs = [.slice A l.length cap] ∧ Pts W A l := by
  obtain ⟨A, cap, rows, rfl, hR, hc, ds, sp, h1, h2, h3⟩ := open_rows (sz := 3) (R := fun r _ => okAll ptL r) Try.underlying27 (by kernel_rfl) (by omega) (fun k cs y hl hy => leafs_ok 2 _ ptL pt_leafs k cs y hl hy) h
  have hall : ∀ r ∈ rows, okAll ptL r := by
    intro r hr
    obtain ⟨i, hi, rfl⟩ := List.mem_iff_getElem.1 hr
    have := h3 i hi
    simpa [List.getD, hi] using this
  obtain ⟨l, rfl, hq⟩ := typed (ls := ptL) ptV _ pt_row rows hall
  rw [List.length_map] at hc h2 ⊢
  exact ⟨A, cap, l, rfl, hR, hq⟩
theorem open_crvV {H : Type} {enc : TypeId × Value → H} {W : World} {base b0 : Nat} {spare : Nat → Bool} {held : Bool} {r : Reach} {v : Value} {d : DataW H} {p : List MemPlace}
    (hv : Value.okWide Try.prog W r b0 29 v) (h : DataW.Trod enc Try.prog W base spare held 29 v d p) :
    ∃ A cap, ∃ q : UM.Crv, v = .agg #[.slice A q.pts.length cap, .int .i64 q.day, .int .i64 q.net] ∧ (Pts W A q.pts ∧ i64 q.day ∧ i64 q.net) := by
  have ht := Try.underlying29
  have hz : Try.prog.cellsOf 29 = 3 := by kernel_rfl
  obtain ⟨cs, rfl, hs, _⟩ : ∃ cs, v = .agg cs ∧ cs.size = Try.prog.cellsOf 29 ∧ Row.okWide Try.prog W r b0 29 cs := by
    simpa [Value.okWide, ht] using hv
  obtain ⟨fuel, hf⟩ := h
  have hf' : DataW.trod enc Try.prog W base spare held fuel 29 cs.toList = some _ := hf
  obtain ⟨xs, n, _, hxd, _, hxl, hfl⟩ := DataW.trod_struct ht hf'
  have z3 : Try.prog.cellsOf 3 = 1 := by kernel_rfl
  have zs : Try.prog.cellsOf 27 = 1 := by kernel_rfl
  obtain ⟨cl, hcl⟩ : ∃ cl : List Value, cs.toList = cl := ⟨_, rfl⟩
  have hl3 : cl.length = 3 := by rw [← hcl]; simp; omega
  obtain rfl : cs = cl.toArray := by rw [← hcl]
  have h0 := hfl 0 _ rfl
  have h1 := hfl 1 _ rfl
  have h2 := hfl 2 _ rfl
  match xs, hxl with
  | [x0, x1, x2], _ =>
  match cl, hl3 with
  | [c0, c1, c2], _ =>
    have h0' : DataW.trod enc Try.prog W base spare held n 27 ([c0, c1, c2].take (Try.prog.cellsOf 27)) = some x0 := h0
    have h1' : DataW.trod enc Try.prog W base spare held n 3 ([c1, c2].take (Try.prog.cellsOf 3)) = some x1 := h1
    have h2' : DataW.trod enc Try.prog W base spare held n 3 ([c2].take (Try.prog.cellsOf 3)) = some x2 := h2
    rw [zs] at h0'; rw [z3] at h1' h2'
    obtain ⟨A, cap, l, hc0, hT⟩ := pts_cells h0'
    obtain ⟨m1, hm1, _, q1⟩ := DataW.trod_int Try.underlying3 h1'
    obtain ⟨m2, hm2, _, q2⟩ := DataW.trod_int Try.underlying3 h2'
    have e0 : c0 = .slice A l.length cap := by simpa using hc0
    have e1 : c1 = .int .i64 m1 := by simpa using hm1
    have e2 : c2 = .int .i64 m2 := by simpa using hm2
    subst e0 e1 e2
    exact ⟨A, cap, ⟨l, m1, m2⟩, rfl, hT, bounds_i64 q1, bounds_i64 q2⟩
end Go.Proofs.Ytagmknahmkniaac

/- Layer 20's mathematics: what lots get by a change of prices. -/
namespace VM
def isP (n : Int) : Bool := QM.within n (-16777216) 16777216
theorem isP_true {n : Int} : isP n = true ↔ -16777216 ≤ n ∧ n ≤ 16777216 := QM.within_true
def carE (p : QM.Prod) (net b n : Int) : Int := if QM.checkE p ≠ 0 then QM.checkE p else if (isP b && isP n) = false then 17 else QM.valueE p (n - b) net
def carN (p : QM.Prod) (net b n : Int) : Int := if carE p net b n = 0 then QM.valueN p (n - b) net else 0
theorem car_bad {p : QM.Prod} {net b n : Int} (h : QM.checkE p ≠ 0) : carE p net b n = QM.checkE p ∧ carN p net b n = 0 := by
  have e : carE p net b n = QM.checkE p := by unfold carE; rw [if_pos h]
  exact ⟨e, by unfold carN; rw [e, if_neg h]⟩
theorem car_price {p : QM.Prod} {net b n : Int} (h : QM.checkE p = 0) (h2 : (isP b && isP n) = false) : carE p net b n = 17 ∧ carN p net b n = 0 := by
  have e : carE p net b n = 17 := by unfold carE; rw [if_neg (by simp [h]), if_pos h2]
  exact ⟨e, by unfold carN; rw [e]; rfl⟩
theorem car_val {p : QM.Prod} {net b n : Int} (h : QM.checkE p = 0) (h2 : (isP b && isP n) = true) : carE p net b n = QM.valueE p (n - b) net ∧ carN p net b n = QM.valueN p (n - b) net := by
  have e : carE p net b n = QM.valueE p (n - b) net := by unfold carE; rw [if_neg (by simp [h]), if_neg (by simp [h2])]
  refine ⟨e, ?_⟩
  unfold carN
  rw [e]
  split
  · rfl
  · rename_i h3
    unfold QM.valueN; rw [if_neg h3]
end VM

/- Layer 19's mathematics: a curve of prices that a product may have tells such prices. -/
namespace UM
set_option linter.unusedVariables false
theorem curve_price {p : QM.Prod} {l : List Pt} {day : Int} (hc : QM.checkE p = 0) (h : ∀ x ∈ l, x.known = true → QM.priceE p x.price = 0) (he : atE l day p.tick = 0) : QM.priceE p (atN l day p.tick) = 0 := by
  obtain ⟨g, ht, hd⟩ := at_zero he
  rw [(at_ok g ht hd).2]
  obtain ⟨_, _, _, _, ⟨l1, l2, l3⟩, ml, mh⟩ := QM.check_parts hc
  obtain ⟨⟨m1, m2, m3, m4⟩, hcs⟩ := ar_cases g (tick := p.tick) hd ht
  have pa := h _ m1 m2
  have pb := h _ m3 m4
  rcases hcs with e | ⟨e, hp⟩
  · rw [price_same p.tick e]; exact pa
  · rw [price_tween p.tick e]
    rw [QM.price_zero] at pa pb ⊢
    refine ⟨hc, ?_, ?_⟩
    · obtain ⟨x, hx⟩ := Int.dvd_of_tmod_eq_zero ml
      obtain ⟨y, hy⟩ := Int.dvd_of_tmod_eq_zero mh
      obtain ⟨v1, v2⟩ := hp.line (lo := p.low) (hi := p.high) ⟨pa.2.1.1, pb.2.1.1⟩ ⟨pa.2.1.2, pb.2.1.2⟩
      obtain ⟨_, _, c1, c2⟩ := hp.lined
      have b1 := mul_in (a := p.low) (b := (arB l day).exp - (arA l day).exp) (M := 16777216) (N := 73048) ⟨l1, by omega⟩ ⟨by have := hp.lt; omega, by have := hp.db; have := hp.da; omega⟩ (by omega)
      have b2 := mul_in (a := p.high) (b := (arB l day).exp - (arA l day).exp) (M := 16777216) (N := 73048) ⟨by omega, l3⟩ ⟨by have := hp.lt; omega, by have := hp.db; have := hp.da; omega⟩ (by omega)
      have ex : x * (((arB l day).exp - (arA l day).exp) * p.tick) = p.low * ((arB l day).exp - (arA l day).exp) := by rw [hx]; ac_rfl
      have ey : y * (((arB l day).exp - (arA l day).exp) * p.tick) = p.high * ((arB l day).exp - (arA l day).exp) := by rw [hy]; ac_rfl
      obtain ⟨_, k1, k2⟩ := TP.md_between (a := lineV (arA l day) (arB l day) day) (c := ((arB l day).exp - (arA l day).exp) * p.tick) (x := x) (y := y) (mode := 5) ⟨c1, by omega⟩ (by omega) (by omega) (by rw [ex]; exact v1) (by rw [ey]; exact v2) (by rw [ex]; omega) (by rw [ey]; omega)
      have n1 : x * p.tick ≤ tweenN (arA l day) (arB l day) day p.tick := Int.mul_le_mul_of_nonneg_right k1 (by omega)
      have n2 : tweenN (arA l day) (arB l day) day p.tick ≤ y * p.tick := Int.mul_le_mul_of_nonneg_right k2 (by omega)
      rw [Int.mul_comm] at hx hy
      omega
    · unfold tweenN; exact Int.mul_tmod_left _ _
/-- what the law asks of the change between two such prices -/
structure Change (p : QM.Prod) (a b net : Int) : Prop where
  n : VM.carN p net a b = QM.valueN p (b - a) net
  e : VM.carE p net a b = QM.valueE p (b - a) net
  rule : (QM.valueE p (b - a) net = 0 ∧ (-1048576 ≤ net ∧ net ≤ 1048576)) ∨ (QM.valueE p (b - a) net ≠ 0 ∧ (net < -1048576 ∨ 1048576 < net))
  fits : CM.fits (QM.valueN p (b - a) net) = true
  sub : -33554432 ≤ b - a ∧ b - a ≤ 33554432
theorem change {p : QM.Prod} {a b net : Int} (ha : QM.priceE p a = 0) (hb : QM.priceE p b = 0) : Change p a b net := by
  obtain ⟨hc, ⟨a1, a2⟩, _⟩ := QM.price_zero.1 ha
  obtain ⟨_, ⟨b1, b2⟩, _⟩ := QM.price_zero.1 hb
  obtain ⟨_, _, hm, _, ⟨l1, l2, l3⟩, _⟩ := QM.check_parts hc
  have hv := VM.car_val (p := p) (net := net) (b := a) (n := b) hc (by rw [VM.isP_true.2 ⟨by omega, by omega⟩, VM.isP_true.2 ⟨by omega, by omega⟩]; rfl)
  have hs : -33554432 ≤ b - a ∧ b - a ≤ 33554432 := by omega
  have hE : QM.valueE p (b - a) net = if QM.within net (-1048576) 1048576 = false then 18 else 0 := by
    unfold QM.valueE
    rw [if_neg (by simp [hc]), if_neg (by rw [QM.within_true.2 hs]; simp)]
  cases hw : QM.within net (-1048576) 1048576
  · rw [hw, if_pos rfl] at hE
    refine ⟨hv.2, hv.1, .inr ⟨by rw [hE]; decide, QM.within_false.1 hw⟩, ?_, hs⟩
    unfold QM.valueN; rw [if_neg (by rw [hE]; decide)]; rfl
  · rw [hw, if_neg (by simp)] at hE
    have hn := QM.within_true.1 hw
    refine ⟨hv.2, hv.1, .inl ⟨hE, hn⟩, ?_, hs⟩
    unfold QM.valueN; rw [if_pos hE]
    have i1 := mul_in (a := b - a) (b := p.mult) (M := 33554432) (N := 4096) hs ⟨by omega, hm.2⟩ (by omega)
    rw [CM.fits_true]
    rcases Int.le_total 0 net with h | h
    · have i2 := mul_in (a := (b - a) * p.mult) (b := net) (M := 137438953472) (N := 1048576) ⟨by omega, by omega⟩ ⟨h, hn.2⟩ (by omega)
      omega
    · have i2 := mul_in (a := (b - a) * p.mult) (b := -net) (M := 137438953472) (N := 1048576) ⟨by omega, by omega⟩ ⟨by omega, by omega⟩ (by omega)
      rw [Int.mul_neg] at i2
      omega
end UM

/- Contracts of layer 20: isPrice, Carried. -/
namespace Go.Proofs.Ytagmknahmkniaac
open Go.RowKit Go.Recs
set_option linter.unusedVariables false
set_option linter.unusedSimpArgs false
theorem visprice_any (n : Int) (w : World) : Calls Try.prog 23 #[.int .i64 n] w fun e w' => e = .returned (.bool (VM.isP n)) ∧ w = w' := by
  by_cases h1 : -16777216 ≤ n
  · by_cases h2 : n ≤ 16777216
    · rw [VM.isP_true.2 ⟨h1, h2⟩]
      go_enter Try.func23, Try.ntmps23
      go_wp2
      go_ret
      exact ⟨rfl, rfl⟩
    · have e : VM.isP n = false := QM.within_false.2 (.inr (by omega))
      rw [e]; clear e
      go_enter Try.func23, Try.ntmps23
      go_wp2
      go_ret
      exact ⟨rfl, rfl⟩
  · have e : VM.isP n = false := QM.within_false.2 (.inl (by omega))
    rw [e]; clear e
    go_enter Try.func23, Try.ntmps23
    go_wp2
    go_ret
    exact ⟨rfl, rfl⟩
set_option maxHeartbeats 4000000 in
theorem vcarried_any (p : QM.Prod) (net b n : Int) (hq : prodQ p) (w : World) :
    Calls Try.prog 9 #[prodA p, .int .i64 net, .int .i64 b, .int .i64 n] w fun e w' => e = .returned (.tuple #[.int .i64 (VM.carN p net b n), .int .i64 (VM.carE p net b n)]) ∧ Below w.heap.size w w' := by
  have C0 := Lib.hid (fun ww => qcheck_any p hq ww)
  have HB := Lib.hid (below_al (Below.refl w.heap.size w) (.cells #[.string p.name, .int .i64 p.cur, .int .i64 p.mult, .int .i64 p.tick, .int .i64 p.low, .int .i64 p.high, .bool p.phys] 23))
  have HP := Lib.hid (PBox.new w p)
  have HL := Lib.hid (new_lt w (.cells #[.string p.name, .int .i64 p.cur, .int .i64 p.mult, .int .i64 p.tick, .int .i64 p.low, .int .i64 p.high, .bool p.phys] 23))
  have P1 := Lib.hid (fun ww => visprice_any b ww)
  have P2 := Lib.hid (fun ww => visprice_any n ww)
  obtain ⟨c0, c1, c2, c3, c4, c5, c6⟩ := HP.out.cells
  by_cases hc : QM.checkE p = 0
  · rw [hc] at C0
    cases h1 : VM.isP b
    · obtain ⟨e1, e2⟩ := VM.car_price (p := p) (net := net) (b := b) (n := n) hc (by rw [h1]; rfl)
      rw [h1] at P1
      rw [e1, e2]; clear e1 e2 h1 hc hq
      go_enter Try.func9, Try.ntmps9
      go_wp2_with fail
      refine (C0.out _).mono ?_
      rintro e w1 ⟨rfl, b1⟩
      have HB1 := Lib.hid (HB.out.trans (b1.mono HB.out.size))
      clear b1
      go_wp2_with fail
      refine (P1.out _).mono ?_
      rintro e w2 ⟨rfl, rfl⟩
      go_wp2_with fail
      go_ret2
      exact ⟨rfl, HB1.out⟩
    cases h2 : VM.isP n
    · obtain ⟨e1, e2⟩ := VM.car_price (p := p) (net := net) (b := b) (n := n) hc (by rw [h1, h2]; rfl)
      rw [h1] at P1
      rw [h2] at P2
      rw [e1, e2]; clear e1 e2 h1 h2 hc hq
      go_enter Try.func9, Try.ntmps9
      go_wp2_with fail
      refine (C0.out _).mono ?_
      rintro e w1 ⟨rfl, b1⟩
      have HB1 := Lib.hid (HB.out.trans (b1.mono HB.out.size))
      clear b1
      go_wp2_with fail
      refine (P1.out _).mono ?_
      rintro e w2 ⟨rfl, rfl⟩
      go_wp2_with fail
      refine (P2.out _).mono ?_
      rintro e w2 ⟨rfl, rfl⟩
      go_wp2_with fail
      go_ret2
      exact ⟨rfl, HB1.out⟩
    obtain ⟨e1, e2⟩ := VM.car_val (p := p) (net := net) (b := b) (n := n) hc (by rw [h1, h2]; rfl)
    have i1 := VM.isP_true.1 h1
    have i2 := VM.isP_true.1 h2
    rw [h1] at P1
    rw [h2] at P2
    have C3 := Lib.hid (fun ww => qvalue_any p (n - b) net hq ww)
    rw [e1, e2]; clear e1 e2 h1 h2 hc hq
    generalize QM.valueE p (n - b) net = ve at *
    generalize QM.valueN p (n - b) net = vn at *
    go_enter Try.func9, Try.ntmps9
    go_wp2_with fail
    refine (C0.out _).mono ?_
    rintro e w1 ⟨rfl, b1⟩
    have HB1 := Lib.hid (HB.out.trans (b1.mono HB.out.size))
    have HP1 := Lib.hid (HP.out.below b1 HL.out)
    clear b1 c0 c1 c2 c3 c4 c5 c6 HB
    obtain ⟨c0, c1, c2, c3, c4, c5, c6⟩ := HP1.out.cells
    go_wp2_with fail
    refine (P1.out _).mono ?_
    rintro e w2 ⟨rfl, rfl⟩
    go_wp2_with fail
    refine (P2.out _).mono ?_
    rintro e w2 ⟨rfl, rfl⟩
    go_wp2_with fail
    refine (C3.out _).mono ?_
    rintro e w2 ⟨rfl, b2⟩
    have HB2 := Lib.hid (HB1.out.trans (b2.mono HB1.out.size))
    clear b2
    go_wp2_with fail
    go_ret2
    exact ⟨rfl, HB2.out⟩
  · obtain ⟨e1, e2⟩ := VM.car_bad (p := p) (net := net) (b := b) (n := n) hc
    have hd : (QM.checkE p != 0) = true := by simpa using hc
    rw [e1, e2]; clear e1 e2
    generalize QM.checkE p = y at *
    clear hc hq
    go_enter Try.func9, Try.ntmps9
    go_wp2_with fail
    refine (C0.out _).mono ?_
    rintro e w1 ⟨rfl, b1⟩
    have HB1 := Lib.hid (HB.out.trans (b1.mono HB.out.size))
    clear b1
    go_wp2_with fail
    go_ret2
    exact ⟨rfl, HB1.out⟩
end Go.Proofs.Ytagmknahmkniaac

/- The example of the tenth stage's top laws. -/
namespace Go.Proofs.Ytagmknahmkniaac
open Go.RowKit Go.Recs
set_option linter.unusedVariables false
set_option linter.unusedSimpArgs false
def oil10 : QM.Prod := ⟨⟨#[111, 105, 108]⟩, 0, 100, 1, 0, 1000, false⟩
theorem oil10_q : prodQ oil10 := ⟨by decide, ⟨by decide, by decide⟩, ⟨by decide, by decide⟩, ⟨by decide, by decide⟩, ⟨by decide, by decide⟩, ⟨by decide, by decide⟩⟩
theorem oil10_v : VM.carN oil10 3 50 47 = -900 ∧ VM.carE oil10 3 50 47 = 0 := by decide
theorem goes10_any (w : World) : Calls Try.prog 6 #[] w fun e w' => e = .returned (.bool true) ∧ Below w.heap.size w w' := by
  have C : ∀ ww, Calls Try.prog 9 #[.agg #[.string ⟨#[111, 105, 108]⟩, .int .i64 0, .int .i64 100, .int .i64 1, .int .i64 0, .int .i64 1000, .bool false], .int .i64 3, .int .i64 50, .int .i64 47] ww fun e w' => e = .returned (.tuple #[.int .i64 (-900), .int .i64 0]) ∧ Below ww.heap.size ww w' := fun ww => by
    have h := vcarried_any oil10 3 50 47 oil10_q ww
    rw [oil10_v.1, oil10_v.2] at h
    exact h
  have C := Lib.hid C
  go_enter Try.func6, Try.ntmps6
  go_wp2_with fail
  refine (C.out _).mono ?_
  rintro e w1 ⟨rfl, b1⟩
  have HB := Lib.hid b1
  clear b1
  go_wp2_with fail
  go_ret
  exact ⟨rfl, HB.out⟩
end Go.Proofs.Ytagmknahmkniaac
