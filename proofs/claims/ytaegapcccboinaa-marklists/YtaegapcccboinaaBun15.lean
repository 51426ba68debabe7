/- Put together: MrkB, MrkC, MrkD. -/
import Derived.Test.YtaegapcccboinaaBun7
import Derived.Test.YtaegapcccboinaaBun14
import Derived.Test.YtaegapcccboinaaBun3
import Derived.Deep.RegionHeld3
/- Contracts of layer 18: the prices of a quote. -/
namespace MK
theorem takes (l : List TP.Tick) {k : Nat} (h : k < l.length) : (l.take (k + 1)).map (·.price) = (l.take k).map (·.price) ++ [(TP.tAt l k).price] := by
  rw [TP.take_succ h, List.map_append]; rfl
end MK
namespace Go.Proofs.Ytaegapcccboinaa
open Go.RowKit Go.Recs
set_option linter.unusedVariables false
set_option linter.unusedSimpArgs false
theorem CB.grown {w w' : World} {g : Nat} {t : TypeId} {cs : Array Value} {r : Option Nat} (h : CB w g t cs) (hg : w.grownBy w' r) (hne : ∀ b, r = some b → b < g) : CB w' g t cs := by
  refine (hg.block g h.lt ?_).trans h
  intro e
  exact absurd (hne g e.symm) (Nat.lt_irrefl _) <;> rfl
theorem Own.lt {w : World} {B : Nat} {v : Value} {zs : List Int} (h : Own w B v zs) : ∀ b, v.ownBlock = some b → b < w.heap.size := fun k hk => (World.ownsRow.lt h k hk).2
/-- the sides as far as they were looked at -/
def sidesU (q : MK.Quote) (k : Nat) : List Int := if k = 0 then [] else if k = 1 then MK.side q.bid else MK.side q.bid ++ MK.side q.ask
theorem sides_one (q : MK.Quote) : sidesU q 1 = MK.side q.bid := rfl
theorem sides_two (q : MK.Quote) : sidesU q 2 = MK.side q.bid ++ MK.side q.ask := rfl
theorem side_no {x : Int} (h : x = 0) : MK.side x = [] := by unfold MK.side; rw [if_pos h]
theorem side_yes {x : Int} (h : ¬ x = 0) : MK.side x = [x] := by unfold MK.side; rw [if_neg h]
set_option maxRecDepth 100000 in
set_option maxHeartbeats 4000000 in
theorem checkprices_any (p : QM.Prod) (hp : prodQ p) (A : Option Addr) (cap : Nat) (q : MK.Quote) (hl : q.ticks.length ≤ 1048576) (hb : i64 q.bid) (ha : i64 q.ask) (hf : i64 q.before) (w : World) (hI : Ticks w A q.ticks) :
    Calls Try.prog 56 #[prodA p, qA A cap q] w fun e w' => e = .returned (.int .i64 (MK.firstE p (MK.prices q))) ∧ Below w.heap.size w w' := by
  have KF := Lib.hid (fun k => @MK.first_stop p (MK.prices q) k)
  have KS := Lib.hid (fun k => @MK.first_step p (MK.prices q) k)
  have KT : Hid (MK.firstE p ((MK.prices q).take (MK.prices q).length) = MK.firstE p (MK.prices q)) := Lib.hid (by rw [List.take_length])
  have KR : Hid (∀ x ∈ MK.prices q, -9223372036854775808 ≤ x ∧ x ≤ 9223372036854775807) := Lib.hid (by
    intro x hx
    unfold MK.prices MK.side at hx
    simp only [List.mem_append, List.mem_map, List.mem_singleton] at hx
    rcases hx with (⟨t, ht, rfl⟩ | hx | hx) | rfl
    · exact (hI.2 t ht).2.2
    · split at hx
      · simp at hx
      · simp at hx; subst hx; exact hb
    · split at hx
      · simp at hx
      · simp at hx; subst hx; exact ha
    · exact hf)
  have KL : Hid ((MK.prices q).length ≤ 1048579) := Lib.hid (by
    unfold MK.prices MK.side
    simp only [List.length_append, List.length_map, List.length_singleton]
    split <;> split <;> simp <;> omega)
  have KP : Hid (MK.prices q = (q.ticks.map (·.price) ++ MK.side q.bid ++ MK.side q.ask) ++ [q.before]) := Lib.hid (by unfold MK.prices; simp only [List.append_assoc])
  have CP := Lib.hid (fun x ww => qprice_any p x hp ww)
  have K1 := Lib.hid (fun k => @MK.takes q.ticks k)
  have K1E : Hid ((q.ticks.take q.ticks.length).map (·.price) = q.ticks.map (·.price)) := Lib.hid (by rw [List.take_length])
  have HB0 := Lib.hid (below_al (below_al (Below.refl w.heap.size w) (.cells #[.string p.name, .int .i64 p.cur, .int .i64 p.mult, .int .i64 p.tick, .int .i64 p.low, .int .i64 p.high, .bool p.phys] 42)) (.cells (qC A cap q) 44))
  have HP0 : Hid (PBox ((w.alloc (.cells #[.string p.name, .int .i64 p.cur, .int .i64 p.mult, .int .i64 p.tick, .int .i64 p.low, .int .i64 p.high, .bool p.phys] 42)).alloc (.cells (qC A cap q) 44)) w.heap.size p) := Lib.hid ((PBox.new w p).alloc _)
  have HQ0 := Lib.hid (CB.new1 w (.cells #[.string p.name, .int .i64 p.cur, .int .i64 p.mult, .int .i64 p.tick, .int .i64 p.low, .int .i64 p.high, .bool p.phys] 42) 44 (qC A cap q))
  have HI := Lib.hid hI
  have hlen := hI.len
  obtain ⟨c0, c1, c2, c3, c4, c5, c6, c7⟩ := quote_cells HQ0.out
  clear hI hp hb ha hf
  generalize MK.prices q = ps at *
  go_enter Try.func56, Try.ntmps56
  go_wp2_with fail
  generalize (w.alloc (.cells #[.string p.name, .int .i64 p.cur, .int .i64 p.mult, .int .i64 p.tick, .int .i64 p.low, .int .i64 p.high, .bool p.phys] 42)).alloc (.cells #[.slice A q.ticks.length cap, .int .i64 q.from_, .int .i64 q.to_, .int .i64 q.least, .int .i64 q.bid, .int .i64 q.ask, .int .i64 q.before, .int .i64 q.move] 44) = w0 at *
  have HI0 := Lib.hid (HI.out.below HB0.out)
  clear c0 c1 c2 c3 c4 c5 c6 c7
  go_loopw [5, 7, 16] (fun v _ i wr => ∃ k : Nat, k ≤ q.ticks.length ∧ i = .int .i64 (k : Int) ∧ Hid (Own wr w0.heap.size v ((q.ticks.take k).map (·.price))) ∧ Hid (Below w0.heap.size w0 wr)) (fun _ _ i _ => q.ticks.length - (intOf i).toNat)
  case atStart => exact ⟨0, by omega, rfl, Lib.hid (Own.nil _ _), Lib.hid (Below.refl _ _)⟩
  case round =>
    obtain ⟨k, hk, rfl, HO, HB⟩ := hrel
    by_cases hlt : k < q.ticks.length
    · obtain ⟨b, off, x, rfl, hb, HV, ⟨q0, q1, q2⟩, d0, d1, d2⟩ := ticks_get (HI0.out.below HB.out) hlt
      have hX := CB.new wr 72 (tickC x)
      have f0 := hX.cell 0
      have f1 := hX.cell 1
      have f2 := hX.cell 2
      simp only [List.getElem?_toArray, List.getElem?_cons_zero, List.getElem?_cons_succ] at f0 f1 f2
      have HBx := HB.out.alloc HB.out.size (.cells (tickC x) 72)
      have HOx := HO.out.alloc (.cells (tickC x) 72)
      have HW : Hid ((q.ticks.take (k + 1)).map (·.price) = (q.ticks.take k).map (·.price) ++ [x.price]) := Lib.hid (by rw [K1.out k hlt, HV.out])
      have hwl : ((q.ticks.take k).map (·.price)).length < 1099511627776 := by rw [List.length_map, List.length_take]; omega
      obtain ⟨wa, hwa⟩ : ∃ wa, wr.alloc (.cells #[.int .i64 x.time, .int .i64 x.qty, .int .i64 x.price] 72) = wa := ⟨_, rfl⟩
      rw [hwa] at f0 f1 f2
      have HBa := Lib.hid (hwa ▸ HBx : Below w0.heap.size w0 wa)
      have HOa := Lib.hid (hwa ▸ HOx : Own wa w0.heap.size _ ((q.ticks.take k).map (·.price)))
      clear hX HBx HOx HV HO HB q0 q1 q2
      generalize (q.ticks.take k).map (·.price) = zs at *
      go_wp2_with (at_builtin; refine wpList_push _ x.price w0.heap.size zs _ _ rfl rfl _ rfl rfl HOa.out ?c1 HBa.out.size ?_)
      case c1 => exact hwl
      intro v4 w4 o4 b4 _ _
      have HO4 : Hid (Own w4 w0.heap.size v4 ((q.ticks.take (k + 1)).map (·.price))) := Lib.hid (by rw [HW.out]; exact o4)
      have HB4 := Lib.hid (HBa.out.trans b4)
      clear o4 b4 HOa HBa f0 f1 f2 d0 d1 d2 hwa hwl
      go_wp2_with fail
      go_roundw
      case rel => exact ⟨k + 1, by omega, by go_num, HO4, HB4⟩
      case measure => simp [intOf]; omega
    · obtain rfl : k = q.ticks.length := by omega
      rw [K1E.out] at HO
      clear K1 K1E
      generalize hbase : q.ticks.map (·.price) = base at *
      have HLN : Hid (∀ k, k ≤ 2 → (base ++ sidesU q k).length ≤ 1048578) := Lib.hid (fun k hk => by
        rw [← hbase, List.length_append, List.length_map]
        unfold sidesU MK.side
        repeat' split
        all_goals (simp; try omega))
      clear hbase
      generalize wr = w2 at *
      obtain ⟨c0, c1, c2, c3, c4, c5, c6, c7⟩ := quote_cells (HQ0.out.below HB.out HQ0.out.lt)
      have HO0 := HO.out.alloc (.cells #[.int .i64 q.bid, .int .i64 q.ask] 3)
      have HB0' := HB.out.alloc HB.out.size (.cells #[.int .i64 q.bid, .int .i64 q.ask] 3)
      have HL0 := CB.new w2 3 #[.int .i64 q.bid, .int .i64 q.ask]
      have HN0 := Own.lt HO.out
      have HO1 : Hid (Own (w2.alloc (.cells #[.int .i64 q.bid, .int .i64 q.ask] 3)) w0.heap.size _ (base ++ sidesU q 0)) := Lib.hid (by rw [show sidesU q 0 = [] from rfl, List.append_nil]; exact HO0)
      have HB1 := Lib.hid HB0'
      have HL1 := Lib.hid HL0
      have HN1 := Lib.hid HN0
      clear HO0 HB0' HL0 HN0 HO HB
      go_wp2_with fail
      go_loopw [5, 9, 32] (fun v _ i wr => ∃ k : Nat, k ≤ 2 ∧ i = .int .i64 (k : Int) ∧ Hid (Own wr w0.heap.size v (base ++ sidesU q k)) ∧ Hid (Below w0.heap.size w0 wr) ∧ Hid (k < 2 → CB wr w2.heap.size 3 #[.int .i64 q.bid, .int .i64 q.ask]) ∧ Hid (k = 0 → ∀ b, v.ownBlock = some b → b < w2.heap.size)) (fun _ _ i _ => 2 - (intOf i).toNat)
      case atStart => exact ⟨0, by omega, rfl, HO1, HB1, Lib.hid (fun _ => HL1.out), Lib.hid (fun _ => HN1.out)⟩
      case round =>
        clear HO1 HB1 HL1 HN1 c0 c1 c2 c3 c4 c5 c6 c7
        obtain ⟨k, hk, rfl, HO, HB, HL, HN⟩ := hrel
        rcases (by omega : k = 0 ∨ k = 1 ∨ k = 2) with rfl | rfl | rfl
        · --0
          obtain ⟨x, hx⟩ : ∃ x, q.bid = x := ⟨_, rfl⟩
          have HC := Lib.hid (HL.out (by omega))
          have c0 : wr.cell? ⟨w2.heap.size, 0, none⟩ = some (.int .i64 x) := by rw [← hx]; exact HC.out.cell 0
          have hg2 : w2.heap.size < wr.heap.size := HC.out.lt
          have HX := Lib.hid hx
          clear hx
          by_cases h0 : x = 0
          · have e1 : (x != 0) = false := by simp [h0]
            have HS : Hid (sidesU q 1 = sidesU q 0) := Lib.hid (by rw [sides_one, HX.out, side_no h0]; rfl)
            clear h0
            go_wp2_with fail
            go_roundw
            case rel => exact ⟨1, by omega, by go_num, Lib.hid (by rw [HS.out]; exact HO.out), HB, Lib.hid (fun _ => HC.out), Lib.hid (fun h => absurd h (by omega))⟩
            case measure => simp [intOf]
          · have e1 : (x != 0) = true := by simpa using h0
            have HS : Hid (sidesU q 1 = sidesU q 0 ++ [x]) := Lib.hid (by rw [sides_one, HX.out, side_yes h0]; rfl)
            have hwl : (base ++ sidesU q 0).length < 1099511627776 := by have := HLN.out 0 (by omega); omega
            clear h0
            go_wp2_with (at_builtin; refine wpList_push _ x w0.heap.size (base ++ sidesU q 0) _ _ rfl rfl _ rfl rfl HO.out ?c1 HB.out.size ?_)
            case c1 => simpa using hwl
            intro v4 w4 o4 b4 _ g4
            have HO4 : Hid (Own w4 w0.heap.size v4 (base ++ sidesU q 1)) := Lib.hid (by rw [HS.out]; simpa using o4)
            have HB4 := Lib.hid (HB.out.trans b4)
            have HC4 := Lib.hid (HC.out.grown g4 (HN.out (by first | rfl | trivial)))
            clear o4 b4 g4 c0
            go_wp2_with fail
            go_roundw
            case rel => exact ⟨1, by omega, by go_num, HO4, HB4, Lib.hid (fun _ => HC4.out), Lib.hid (fun h => absurd h (by omega))⟩
            case measure => simp [intOf]
        · --1
          obtain ⟨x, hx⟩ : ∃ x, q.ask = x := ⟨_, rfl⟩
          have HC := Lib.hid (HL.out (by omega))
          have c0 : wr.cell? ⟨w2.heap.size, 1, none⟩ = some (.int .i64 x) := by rw [← hx]; exact HC.out.cell 1
          have hg2 : w2.heap.size < wr.heap.size := HC.out.lt
          have HX := Lib.hid hx
          clear hx
          by_cases h0 : x = 0
          · have e1 : (x != 0) = false := by simp [h0]
            have HS : Hid (sidesU q 2 = sidesU q 1) := Lib.hid (by rw [sides_two, sides_one, HX.out, side_no h0, List.append_nil])
            clear h0
            go_wp2_with fail
            go_roundw
            case rel => exact ⟨2, by omega, by go_num, Lib.hid (by rw [HS.out]; exact HO.out), HB, Lib.hid (fun h => absurd h (by omega)), Lib.hid (fun h => absurd h (by omega))⟩
            case measure => simp [intOf]
          · have e1 : (x != 0) = true := by simpa using h0
            have HS : Hid (sidesU q 2 = sidesU q 1 ++ [x]) := Lib.hid (by rw [sides_two, sides_one, HX.out, side_yes h0])
            have hwl : (base ++ sidesU q 1).length < 1099511627776 := by have := HLN.out 1 (by omega); omega
            clear h0
            go_wp2_with (at_builtin; refine wpList_push _ x w0.heap.size (base ++ sidesU q 1) _ _ rfl rfl _ rfl rfl HO.out ?c1 HB.out.size ?_)
            case c1 => simpa using hwl
            intro v4 w4 o4 b4 _ g4
            have HO4 : Hid (Own w4 w0.heap.size v4 (base ++ sidesU q 2)) := Lib.hid (by rw [HS.out]; simpa using o4)
            have HB4 := Lib.hid (HB.out.trans b4)
            clear o4 b4 g4 c0
            go_wp2_with fail
            go_roundw
            case rel => exact ⟨2, by omega, by go_num, HO4, HB4, Lib.hid (fun h => absurd h (by omega)), Lib.hid (fun h => absurd h (by omega))⟩
            case measure => simp [intOf]
        · generalize wr = w3 at *
          have hQ3 := HQ0.out.below HB.out HQ0.out.lt
          obtain ⟨c0, c1, c2, c3, c4, c5, c6, c7⟩ := quote_cells hQ3
          have hlast : (base ++ sidesU q 2).length < 1099511627776 := by have := HLN.out 2 (by omega); omega
          clear HL HN
          generalize hz : base ++ sidesU q 2 = zs at *
          have HPZ : Hid (zs ++ [q.before] = ps) := Lib.hid (by rw [KP.out, ← hz, sides_two, ← List.append_assoc])
          clear hz HLN hQ3
          go_wp2_with (at_builtin; refine wpList_push _ q.before w0.heap.size zs _ _ rfl rfl _ rfl rfl HO.out ?c1 HB.out.size ?_)
          case c1 => exact hlast
          intro v5 w5 o5 b5 _ _
          have HB5 := Lib.hid (HB.out.trans b5)
          rw [HPZ.out] at o5
          obtain ⟨A5, k5, rfl, hI5⟩ := Own.ints o5 KR.out
          have HI5 := Lib.hid hI5
          clear o5 b5 HO HB c0 c1 c2 c3 c4 c5 c6 c7 hI5 HPZ KP KR
          have hNl := KL.out
          go_wp2_with fail
          go_loopw [11, 12, 49] (fun _ _ i wr => ∃ k : Nat, k ≤ ps.length ∧ i = .int .i64 (k : Int) ∧ Hid (MK.firstE p (ps.take k) = 0) ∧ Hid (Below w5.heap.size w5 wr)) (fun _ _ i _ => ps.length - (intOf i).toNat)
          case atStart => exact ⟨0, by omega, rfl, Lib.hid rfl, Lib.hid (Below.refl _ _)⟩
          case round =>
            obtain ⟨k, hk, rfl, HE, HW⟩ := hrel
            have HBW := Lib.hid (HB5.out.trans (HW.out.mono HB5.out.size))
            by_cases hlt : k < ps.length
            · obtain ⟨b, off, x, rfl, hb, d0, HV, x1, x2⟩ := (HI5.out.below HW.out).get hlt
              obtain ⟨c0, c1, c2, c3, c4, c5, c6⟩ := (HP0.out.below HBW.out HP0.out.lt).cells
              have C := Lib.hid (fun ww => CP.out x ww)
              have HF := Lib.hid (KF.out k hlt HE.out)
              have HS := Lib.hid (KS.out k hlt HE.out)
              have HV2 : Hid (MK.xAt ps k = x) := Lib.hid HV.out
              rw [HV2.out] at HF HS
              generalize QM.priceE p x = pe at *
              clear HV HV2 HE
              go_wp2_with fail
              refine (C.out _).mono ?_
              rintro e w6 ⟨rfl, b6⟩
              have HW6 := Lib.hid (HW.out.trans (b6.mono HW.out.size))
              clear b6 c0 c1 c2 c3 c4 c5 c6 d0
              by_cases hpe : pe = 0
              · have HZ := Lib.hid (HS.out hpe)
                subst hpe
                go_wp2_with fail
                go_roundw
                case rel => exact ⟨k + 1, by omega, by go_num, HZ, HW6⟩
                case measure => simp [intOf]; omega
              · have HX := Lib.hid (HF.out hpe)
                have hne : (pe != 0) = true := by simpa using hpe
                have HBF := Lib.hid (HB0.out.trans ((HB5.out.trans (HW6.out.mono HB5.out.size)).mono HB0.out.size))
                clear hpe
                go_wp2_with fail
                go_ret
                exact ⟨by rw [HX.out] <;> rfl, HBF.out⟩
            · obtain rfl : k = ps.length := by omega
              have HX : Hid (MK.firstE p ps = 0) := Lib.hid (by rw [← KT.out]; exact HE.out)
              have HBF := Lib.hid (HB0.out.trans (HBW.out.mono HB0.out.size))
              go_wp2_with fail
              go_ret
              exact ⟨by rw [HX.out] <;> rfl, HBF.out⟩
end Go.Proofs.Ytaegapcccboinaa

/- Contracts of layer 18: Check. -/
namespace Go.Proofs.Ytaegapcccboinaa
open Go.RowKit Go.Recs
set_option linter.unusedVariables false
set_option linter.unusedSimpArgs false
def quoteQ (q : MK.Quote) : Prop := i64 q.from_ ∧ i64 q.to_ ∧ i64 q.least ∧ i64 q.bid ∧ i64 q.ask ∧ i64 q.before ∧ i64 q.move
set_option maxRecDepth 100000 in
set_option maxHeartbeats 8000000 in
theorem mcheck18_any (p : QM.Prod) (hp : prodQ p) (A : Option Addr) (cap : Nat) (q : MK.Quote) (hq : quoteQ q) (w : World) (hI : Ticks w A q.ticks) :
    Calls Try.prog 23 #[prodA p, qA A cap q] w fun e w' => e = .returned (.int .i64 (MK.qE p q)) ∧ Below w.heap.size w w' := by
  have CP := Lib.hid (fun ww => qcheck_any p hp ww)
  have CT := Lib.hid (fun ww h => tcheck_any A q.ticks q.ticks.length cap rfl ww h)
  have CW := Lib.hid (fun n a b ww => within18_any n a b ww)
  have CF := Lib.hid (fun (hl : q.ticks.length ≤ 1048576) ww h => checkprices_any p hp A cap q hl hq.2.2.2.1 hq.2.2.2.2.1 hq.2.2.2.2.2.1 ww h)
  have CB := Lib.hid (fun ww => hasboth_any A cap q ww)
  have CI := Lib.hid (fun ww => isprice18_any q.move ww)
  have KP := Lib.hid (@MK.q_prod p q); have KT := Lib.hid (@MK.q_tape p q); have KM := Lib.hid (@MK.q_time p q); have KL := Lib.hid (@MK.q_least p q); have KF := Lib.hid (@MK.q_first p q); have KC := Lib.hid (@MK.q_last p q); have KO := Lib.hid (@MK.q_ok p q)
  have KG : Hid (TP.allE q.ticks = 0 → q.ticks.length ≤ 1048576) := Lib.hid (fun h => by have := (TP.good h).len; omega)
  have HB0 := Lib.hid (below_al (below_al (Below.refl w.heap.size w) (.cells #[.string p.name, .int .i64 p.cur, .int .i64 p.mult, .int .i64 p.tick, .int .i64 p.low, .int .i64 p.high, .bool p.phys] 42)) (.cells (qC A cap q) 44))
  have HP0 : Hid (PBox ((w.alloc (.cells #[.string p.name, .int .i64 p.cur, .int .i64 p.mult, .int .i64 p.tick, .int .i64 p.low, .int .i64 p.high, .bool p.phys] 42)).alloc (.cells (qC A cap q) 44)) w.heap.size p) := Lib.hid ((PBox.new w p).alloc _)
  have HQ0 := Lib.hid (Proofs.Ytaegapcccboinaa.CB.new1 w (.cells #[.string p.name, .int .i64 p.cur, .int .i64 p.mult, .int .i64 p.tick, .int .i64 p.low, .int .i64 p.high, .bool p.phys] 42) 44 (qC A cap q))
  have HI := Lib.hid (hI.below HB0.out)
  obtain ⟨c0, c1, c2, c3, c4, c5, c6, c7⟩ := quote_cells HQ0.out
  obtain ⟨d0, d1, d2, d3, d4, d5, d6⟩ := HP0.out.cells
  have hm1 : MK.timeB q = (QM.within q.from_ 0 86399 && QM.within q.to_ q.from_ 86399) := rfl
  have hm2 : MK.lastB q = ((MK.both q && decide (q.ask < q.bid)) || !MK.isP q.move) := rfl
  have HM1 := Lib.hid hm1; have HM2 := Lib.hid hm2
  clear hI hp hq hm1 hm2
  generalize QM.checkE p = ep at *
  generalize TP.allE q.ticks = et at *
  generalize MK.timeB q = bt at *
  generalize MK.firstE p (MK.prices q) = ef at *
  generalize MK.lastB q = bl at *
  generalize MK.qE p q = x at *
  go_enter Try.func23, Try.ntmps23
  go_wp2_with fail
  generalize (w.alloc (.cells #[.string p.name, .int .i64 p.cur, .int .i64 p.mult, .int .i64 p.tick, .int .i64 p.low, .int .i64 p.high, .bool p.phys] 42)).alloc (.cells #[.slice A q.ticks.length cap, .int .i64 q.from_, .int .i64 q.to_, .int .i64 q.least, .int .i64 q.bid, .int .i64 q.ask, .int .i64 q.before, .int .i64 q.move] 44) = w0 at *
  refine (CP.out _).mono ?_
  rintro e w1 ⟨rfl, b1⟩
  have HB1 := Lib.hid (HB0.out.trans (b1.mono HB0.out.size))
  have HP1 := Lib.hid (HP0.out.below b1 HP0.out.lt)
  have HQ1 := Lib.hid (HQ0.out.below b1 HQ0.out.lt)
  have HI1 := Lib.hid (HI.out.below b1)
  clear b1 c0 c1 c2 c3 c4 c5 c6 c7 d0 d1 d2 d3 d4 d5 d6 HP0 HQ0 HI HB0
  by_cases hep : ep = 0
  · subst hep
    obtain ⟨c0, c1, c2, c3, c4, c5, c6, c7⟩ := quote_cells HQ1.out
    go_wp2_with fail
    refine (CT.out _ HI1.out).mono ?_
    rintro e w2 ⟨rfl, b2⟩
    have HB2 := Lib.hid (HB1.out.trans (b2.mono HB1.out.size))
    have HP2 := Lib.hid (HP1.out.below b2 HP1.out.lt)
    have HQ2 := Lib.hid (HQ1.out.below b2 HQ1.out.lt)
    have HI2 := Lib.hid (HI1.out.below b2)
    clear b2 c0 c1 c2 c3 c4 c5 c6 c7 HP1 HQ1 HI1 HB1
    by_cases het : et = 0
    · subst het
      have hln := KG.out rfl
      obtain ⟨c0, c1, c2, c3, c4, c5, c6, c7⟩ := quote_cells HQ2.out
      obtain ⟨d0, d1, d2, d3, d4, d5, d6⟩ := HP2.out.cells
      go_wp2_with fail
      refine (CW.out _ _ _ _).mono ?_
      rintro e w3 ⟨rfl, rfl⟩
      cases g1 : QM.within q.from_ 0 86399
      · have HX := Lib.hid (KM.out (by trivial) (by trivial) (by rw [HM1.out, g1]; rfl))
        clear g1
        go_wp2_with fail
        go_ret
        exact ⟨by rw [HX.out] <;> rfl, HB2.out⟩
      go_wp2_with fail
      refine (CW.out _ _ _ _).mono ?_
      rintro e w3 ⟨rfl, rfl⟩
      cases g2 : QM.within q.to_ q.from_ 86399
      · have HX := Lib.hid (KM.out (by trivial) (by trivial) (by rw [HM1.out, g1, g2]; rfl))
        clear g1 g2
        go_wp2_with fail
        go_ret
        exact ⟨by rw [HX.out] <;> rfl, HB2.out⟩
      have HT : Hid (bt = true) := Lib.hid (by rw [HM1.out, g1, g2]; rfl)
      clear g1 g2
      go_wp2_with fail
      refine (CW.out _ _ _ _).mono ?_
      rintro e w3 ⟨rfl, rfl⟩
      cases g3 : QM.within q.least 1 1048576
      · have HX := Lib.hid (KL.out (by trivial) (by trivial) HT.out g3)
        clear g3
        go_wp2_with fail
        go_ret
        exact ⟨by rw [HX.out] <;> rfl, HB2.out⟩
      have HL := Lib.hid g3
      clear g3
      go_wp2_with fail
      refine (CF.out hln _ HI2.out).mono ?_
      rintro e w4 ⟨rfl, b4⟩
      have HB4 := Lib.hid (HB2.out.trans (b4.mono HB2.out.size))
      have HQ4 := Lib.hid (HQ2.out.below b4 HQ2.out.lt)
      clear b4 c0 c1 c2 c3 c4 c5 c6 c7 d0 d1 d2 d3 d4 d5 d6 HP2 HQ2 HI2 HB2
      by_cases hef : ef = 0
      · subst hef
        obtain ⟨c0, c1, c2, c3, c4, c5, c6, c7⟩ := quote_cells HQ4.out
        have KC2 := Lib.hid (KC.out (by trivial) (by trivial) HT.out HL.out (by trivial))
        have KO2 := Lib.hid (KO.out (by trivial) (by trivial) HT.out HL.out (by trivial))
        go_wp2_with fail
        refine (CB.out _).mono ?_
        rintro e w5 ⟨rfl, b5⟩
        have HB5 := Lib.hid (HB4.out.trans (b5.mono HB4.out.size))
        have HQ5 := Lib.hid (HQ4.out.below b5 HQ4.out.lt)
        clear b5 c0 c1 c2 c3 c4 c5 c6 c7 HQ4 HB4
        obtain ⟨c0, c1, c2, c3, c4, c5, c6, c7⟩ := quote_cells HQ5.out
        cases hb : MK.both q
        · go_wp2_with fail
          refine (CI.out _).mono ?_
          rintro e w6 ⟨rfl, rfl⟩
          cases hi : MK.isP q.move
          · have HX := Lib.hid (KC2.out (by rw [HM2.out, hb, hi]; rfl))
            clear hb hi
            go_wp2_with fail
            go_ret
            exact ⟨by rw [HX.out] <;> rfl, HB5.out⟩
          · have HX := Lib.hid (KO2.out (by rw [HM2.out, hb, hi]; rfl))
            clear hb hi
            go_wp2_with fail
            go_ret
            exact ⟨by rw [HX.out] <;> rfl, HB5.out⟩
        · by_cases hlt : q.ask < q.bid
          · have HX := Lib.hid (KC2.out (by rw [HM2.out, hb, decide_eq_true hlt]; rfl))
            clear hb
            go_wp2_with fail
            go_ret
            exact ⟨by rw [HX.out] <;> rfl, HB5.out⟩
          · have hd : decide (q.ask < q.bid) = false := decide_eq_false hlt
            go_wp2_with fail
            refine (CI.out _).mono ?_
            rintro e w6 ⟨rfl, rfl⟩
            cases hi : MK.isP q.move
            · have HX := Lib.hid (KC2.out (by rw [HM2.out, hb, hi, hd]; rfl))
              clear hb hi
              go_wp2_with fail
              go_ret
              exact ⟨by rw [HX.out] <;> rfl, HB5.out⟩
            · have HX := Lib.hid (KO2.out (by rw [HM2.out, hb, hi, hd]; rfl))
              clear hb hi
              go_wp2_with fail
              go_ret
              exact ⟨by rw [HX.out] <;> rfl, HB5.out⟩
      · have HX := Lib.hid (KF.out (by trivial) (by trivial) HT.out HL.out hef)
        have hne : (ef != 0) = true := by simpa using hef
        clear hef
        go_wp2_with fail
        go_ret
        exact ⟨by rw [HX.out] <;> rfl, HB4.out⟩
    · have HX := Lib.hid (KT.out (by trivial) het)
      have hne : (et != 0) = true := by simpa using het
      clear het
      go_wp2_with fail
      go_ret
      exact ⟨by rw [HX.out] <;> rfl, HB2.out⟩
  · have HX := Lib.hid (KP.out hep)
    have hne : (ep != 0) = true := by simpa using hep
    clear hep
    go_wp2_with fail
    go_ret
    exact ⟨by rw [HX.out] <;> rfl, HB1.out⟩
end Go.Proofs.Ytaegapcccboinaa

/- Contracts of layer 18: the rules of a quote. -/
namespace Go.Proofs.Ytaegapcccboinaa
open Go.RowKit Go.Recs
set_option linter.unusedVariables false
set_option linter.unusedSimpArgs false
/-- what the rules captured: the product, the quote, the window, the last tick, whether there is one -/
structure RBox (w : World) (p : QM.Prod) (A : Option Addr) (cap : Nat) (q : MK.Quote) (gp gq gw gl gt : Nat) : Prop where
  hp : PBox w gp p
  hq : CB w gq 44 (qC A cap q)
  hw : ∃ B k, CB w gw 22 #[.slice B (MK.winQ q).length k] ∧ Ticks w B (MK.winQ q)
  hl : CB w gl 72 (tickC (TP.lastT q.ticks))
  ht : CB w gt 4 #[.bool (decide (0 < q.ticks.length))]
theorem RBox.below {w w' : World} {p : QM.Prod} {A : Option Addr} {cap : Nat} {q : MK.Quote} {gp gq gw gl gt : Nat} (h : RBox w p A cap q gp gq gw gl gt) (hb : Below w.heap.size w w') : RBox w' p A cap q gp gq gw gl gt := by
  obtain ⟨B, k, h1, h2⟩ := h.hw
  exact ⟨h.hp.below hb h.hp.lt, h.hq.below hb h.hq.lt, ⟨B, k, h1.below hb h1.lt, h2.below hb⟩, h.hl.below hb h.hl.lt, h.ht.below hb h.ht.lt⟩
section
variable {p : QM.Prod} {A : Option Addr} {cap : Nat} {q : MK.Quote} {gp gq gw gl gt : Nat} {w : World}
theorem rule1a_any (h : RBox w p A cap q gp gq gw gl gt) (hk : MK.Ok p q) :
    Calls Try.prog 84 #[.pointer (some ⟨gw, 0, none⟩), .pointer (some ⟨gq, 0, none⟩)] w fun e w' => e = .returned (.bool (decide (q.least ≤ TP.volN (MK.winQ q)))) ∧ Below w.heap.size w w' := by
  obtain ⟨B, k, h1, h2⟩ := h.hw
  have C := Lib.hid (haslots_any B (MK.winQ q) _ k q.least rfl w h2 (MK.win_ok hk))
  obtain ⟨c0, c1, c2, c3, c4, c5, c6, c7⟩ := quote_cells h.hq
  have k0 := h1.cell 0
  simp only [List.getElem?_toArray, List.getElem?_cons_zero] at k0
  generalize decide (q.least ≤ TP.volN (MK.winQ q)) = x at *
  generalize (MK.winQ q).length = n at *
  clear h h1 h2 hk
  go_enter Try.func84, Try.ntmps84
  go_wp2_with fail
  refine C.out.mono ?_
  rintro e w1 ⟨rfl, b1⟩
  have HB1 := Lib.hid b1
  clear b1
  go_wp2_with fail
  go_ret
  exact ⟨rfl, HB1.out⟩
theorem rule1b_any (h : RBox w p A cap q gp gq gw gl gt) (hk : MK.Ok p q) (hr : q.least ≤ TP.volN (MK.winQ q)) :
    Calls Try.prog 86 #[.pointer (some ⟨gw, 0, none⟩), .pointer (some ⟨gp, 0, none⟩)] w fun e w' => e = .returned (.tuple #[.int .i64 (MK.rawN p q), .int .i64 0]) ∧ Below w.heap.size w w' := by
  obtain ⟨B, k, h1, h2⟩ := h.hw
  have C := Lib.hid (vwap_any B (MK.winQ q) _ k p.tick 5 rfl w h2)
  rw [(MK.win_vw hk hr).1] at C
  have e : MK.rawN p q = TP.vwN (MK.winQ q) p.tick 5 := by unfold MK.rawN; rw [if_pos hr]
  rw [e]
  obtain ⟨c0, c1, c2, c3, c4, c5, c6⟩ := h.hp.cells
  have k0 := h1.cell 0
  simp only [List.getElem?_toArray, List.getElem?_cons_zero] at k0
  generalize TP.vwN (MK.winQ q) p.tick 5 = x at *
  generalize (MK.winQ q).length = n at *
  clear h h1 h2 hk hr e
  go_enter Try.func86, Try.ntmps86
  go_wp2_with fail
  refine C.out.mono ?_
  rintro e w1 ⟨rfl, b1⟩
  have HB1 := Lib.hid b1
  clear b1
  go_wp2_with fail
  go_ret2
  exact ⟨rfl, HB1.out⟩
theorem rule2a_any (h : RBox w p A cap q gp gq gw gl gt) :
    Calls Try.prog 87 #[.pointer (some ⟨gq, 0, none⟩)] w fun e w' => e = .returned (.bool (MK.both q)) ∧ Below w.heap.size w w' := by
  have C := Lib.hid (hasboth_any A cap q w)
  obtain ⟨c0, c1, c2, c3, c4, c5, c6, c7⟩ := quote_cells h.hq
  generalize MK.both q = x at *
  clear h
  go_enter Try.func87, Try.ntmps87
  go_wp2_with fail
  refine C.out.mono ?_
  rintro e w1 ⟨rfl, b1⟩
  have HB1 := Lib.hid b1
  clear b1
  go_wp2_with fail
  go_ret
  exact ⟨rfl, HB1.out⟩
theorem rule2b_any (h : RBox w p A cap q gp gq gw gl gt) (hk : MK.Ok p q) (hr : ¬ q.least ≤ TP.volN (MK.winQ q)) (hb : MK.both q = true) :
    Calls Try.prog 88 #[.pointer (some ⟨gq, 0, none⟩), .pointer (some ⟨gp, 0, none⟩)] w fun e w' => e = .returned (.tuple #[.int .i64 (MK.rawN p q), .int .i64 0]) ∧ Below w.heap.size w w' := by
  have C := Lib.hid (mid_any q.bid q.ask p.tick w)
  rw [MK.mid_fine hk hb] at C
  have e : MK.rawN p q = MK.midN q.bid q.ask p.tick := by unfold MK.rawN; rw [if_neg hr, if_pos hb]
  rw [e]
  obtain ⟨c0, c1, c2, c3, c4, c5, c6⟩ := h.hp.cells
  obtain ⟨d0, d1, d2, d3, d4, d5, d6, d7⟩ := quote_cells h.hq
  generalize MK.midN q.bid q.ask p.tick = x at *
  clear h hk hr e hb
  go_enter Try.func88, Try.ntmps88
  go_wp2_with fail
  refine C.out.mono ?_
  rintro e w1 ⟨rfl, b1⟩
  have HB1 := Lib.hid b1
  clear b1
  go_wp2_with fail
  go_ret2
  exact ⟨rfl, HB1.out⟩
theorem rule3a_any (h : RBox w p A cap q gp gq gw gl gt) :
    Calls Try.prog 89 #[.pointer (some ⟨gt, 0, none⟩)] w fun e w' => e = .returned (.bool (decide (0 < q.ticks.length))) ∧ Below w.heap.size w w' := by
  have k0 := h.ht.cell 0
  simp only [List.getElem?_toArray, List.getElem?_cons_zero] at k0
  generalize decide (0 < q.ticks.length) = x at *
  clear h
  go_enter Try.func89, Try.ntmps89
  go_wp2_with fail
  go_ret
  exact ⟨rfl, Below.refl _ _⟩
theorem rule3b_any (h : RBox w p A cap q gp gq gw gl gt) (hr : ¬ q.least ≤ TP.volN (MK.winQ q)) (hb : ¬ MK.both q = true) (h0 : 0 < q.ticks.length) :
    Calls Try.prog 90 #[.pointer (some ⟨gl, 0, none⟩), .pointer (some ⟨gq, 0, none⟩)] w fun e w' => e = .returned (.tuple #[.int .i64 (MK.rawN p q), .int .i64 0]) ∧ Below w.heap.size w w' := by
  have e : MK.rawN p q = MK.held (TP.lastT q.ticks).price q := by unfold MK.rawN; rw [if_neg hr, if_neg hb, if_pos h0]
  rw [e]
  have hl := h.hl
  generalize TP.lastT q.ticks = t at *
  have C := Lib.hid (held_any t.price A cap q w)
  obtain ⟨d0, d1, d2, d3, d4, d5, d6, d7⟩ := quote_cells h.hq
  have k0 := hl.cell 0
  have k1 := hl.cell 1
  have k2 := hl.cell 2
  simp only [List.getElem?_toArray, List.getElem?_cons_zero, List.getElem?_cons_succ] at k0 k1 k2
  generalize MK.held t.price q = x at *
  clear h hl hr e hb h0
  go_enter Try.func90, Try.ntmps90
  go_wp2_with fail
  refine C.out.mono ?_
  rintro e w1 ⟨rfl, b1⟩
  have HB1 := Lib.hid b1
  clear b1
  go_wp2_with fail
  go_ret2
  exact ⟨rfl, HB1.out⟩
theorem rule4a_any : Calls Try.prog 92 #[] w fun e w' => e = .returned (.bool true) ∧ Below w.heap.size w w' := by
  go_enter Try.func92, Try.ntmps92
  go_wp2_with fail
  go_ret
  exact ⟨rfl, Below.refl _ _⟩
set_option maxHeartbeats 4000000 in
theorem rule4b_any (h : RBox w p A cap q gp gq gw gl gt) (hpq : prodQ p) (hk : MK.Ok p q) (hr : ¬ q.least ≤ TP.volN (MK.winQ q)) (hb : ¬ MK.both q = true) (h0 : ¬ 0 < q.ticks.length) :
    Calls Try.prog 93 #[.pointer (some ⟨gp, 0, none⟩), .pointer (some ⟨gq, 0, none⟩)] w fun e w' => e = .returned (.tuple #[.int .i64 (MK.rawN p q), .int .i64 0]) ∧ Below w.heap.size w w' := by
  have e : MK.rawN p q = QM.roundN p (MK.moved q) 5 := by unfold MK.rawN; rw [if_neg hr, if_neg hb, if_neg h0]
  rw [e]
  have C1 := Lib.hid (fun ww => moved_any A cap q (MK.price_in hk.before) hk.move ww)
  have C2 := Lib.hid (fun ww => qround_any p (MK.moved q) 5 hpq ww)
  rw [MK.round_fine hk] at C2
  have HP : Hid (∀ ww, Below w.heap.size w ww → (ww.cell? ⟨gp, 0, none⟩ = some (.string p.name) ∧ ww.cell? ⟨gp, 1, none⟩ = some (.int .i64 p.cur) ∧ ww.cell? ⟨gp, 2, none⟩ = some (.int .i64 p.mult) ∧ ww.cell? ⟨gp, 3, none⟩ = some (.int .i64 p.tick) ∧ ww.cell? ⟨gp, 4, none⟩ = some (.int .i64 p.low) ∧
      ww.cell? ⟨gp, 5, none⟩ = some (.int .i64 p.high) ∧ ww.cell? ⟨gp, 6, none⟩ = some (.bool p.phys)) ∧ (ww.cell? ⟨gq, 0, none⟩ = some (.slice A q.ticks.length cap) ∧ ww.cell? ⟨gq, 1, none⟩ = some (.int .i64 q.from_) ∧ ww.cell? ⟨gq, 2, none⟩ = some (.int .i64 q.to_) ∧ ww.cell? ⟨gq, 3, none⟩ = some (.int .i64 q.least) ∧
      ww.cell? ⟨gq, 4, none⟩ = some (.int .i64 q.bid) ∧ ww.cell? ⟨gq, 5, none⟩ = some (.int .i64 q.ask) ∧ ww.cell? ⟨gq, 6, none⟩ = some (.int .i64 q.before) ∧ ww.cell? ⟨gq, 7, none⟩ = some (.int .i64 q.move))) :=
    Lib.hid (fun ww hb => ⟨(h.hp.below hb h.hp.lt).cells, quote_cells (h.hq.below hb h.hq.lt)⟩)
  have HBw : Hid (Below w.heap.size w w.drew) := Lib.hid (Below.refl _ _).drew
  generalize QM.roundN p (MK.moved q) 5 = x at *
  generalize MK.moved q = y at *
  clear h hk hr hb h0 e hpq
  go_enter Try.func93, Try.ntmps93
  go_wp2_with fail
  go_region_held3 (fun ww => (ww.cell? ⟨gp, 0, none⟩ = some (.string p.name) ∧ ww.cell? ⟨gp, 1, none⟩ = some (.int .i64 p.cur) ∧ ww.cell? ⟨gp, 2, none⟩ = some (.int .i64 p.mult) ∧ ww.cell? ⟨gp, 3, none⟩ = some (.int .i64 p.tick) ∧ ww.cell? ⟨gp, 4, none⟩ = some (.int .i64 p.low) ∧
      ww.cell? ⟨gp, 5, none⟩ = some (.int .i64 p.high) ∧ ww.cell? ⟨gp, 6, none⟩ = some (.bool p.phys)) ∧ (ww.cell? ⟨gq, 0, none⟩ = some (.slice A q.ticks.length cap) ∧ ww.cell? ⟨gq, 1, none⟩ = some (.int .i64 q.from_) ∧ ww.cell? ⟨gq, 2, none⟩ = some (.int .i64 q.to_) ∧ ww.cell? ⟨gq, 3, none⟩ = some (.int .i64 q.least) ∧
      ww.cell? ⟨gq, 4, none⟩ = some (.int .i64 q.bid) ∧ ww.cell? ⟨gq, 5, none⟩ = some (.int .i64 q.ask) ∧ ww.cell? ⟨gq, 6, none⟩ = some (.int .i64 q.before) ∧ ww.cell? ⟨gq, 7, none⟩ = some (.int .i64 q.move)))
    (exact HP.out _ HBw.out)
    (first
      | (go_at_call 95; refine (C1.out _).mono ?_; rintro e w6 ⟨rfl, b6⟩; replace HBw := Lib.hid (HBw.out.trans (b6.mono HBw.out.size)); clear b6)
      | (go_at_call 94; refine (C2.out _).mono ?_; rintro e w6 ⟨rfl, b6⟩; replace HBw := Lib.hid (HBw.out.trans (b6.mono HBw.out.size)); clear b6))
  all_goals (
    have HBF := Lib.hid HBw.out
    clear HP HBw C1 C2
    go_wp2_with fail
    go_ret2
    exact ⟨rfl, HBF.out⟩)
end
end Go.Proofs.Ytaegapcccboinaa
