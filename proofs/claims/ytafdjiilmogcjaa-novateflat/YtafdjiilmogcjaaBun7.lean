/- Put together: NovB, WordsA, WordsE, ProdA, ProdB, ProductMath3, CentsA, CentsB. -/
import Derived.Test.YtafdjiilmogcjaaBun6
import Derived.Test.YtafdjiilmogcjaaBun1
import Derived.WalkMore
import Derived.Test.YtafdjiilmogcjaaBun4
import Derived.Test.YtafdjiilmogcjaaBun3
import Derived.Test.YtafdjiilmogcjaaBun5
import Derived.Laws.StructEq
import Derived.Test.YtafdjiilmogcjaaBun2
import Derived.Test.YtafdjiilmogcjaaRows
import Derived.WalkKit
import Derived.WalkSpells
import Derived.WalkLawsBesides
import Derived.IntWalk
import Derived.Lib.Hide
import Derived.Deep.QuietTactic
import Derived.BigQuiet
import Derived.Laws.BitsAllLaws
import Derived.Laws.BitsLemmas
/- Contracts of layer 13: the legs that match. -/
namespace Go.Proofs.Ytafdjiilmogcjaa
open Go.RowKit Go.Recs
set_option linter.unusedVariables false
set_option linter.unusedSimpArgs false
theorem leg_one (x : NM.Leg) : ∀ u ∈ [Value.string x.am, .string x.an, .string x.ser.prod, .int .i64 x.ser.kind, .int .i64 x.ser.expiry, .int .i64 x.ser.strike, .int .i64 x.qty, .int .i64 x.price, .int .i64 x.trade], u.oneCell' = true := legV_one [x] (legV x) (by simp)

set_option maxHeartbeats 4000000 in
theorem nmatch_mine (A : Option Addr) (l : List NM.Leg) (n cap : Nat) (hn : n = l.length) (am an : ByteArray) (s : EM.Ser) (g j : Nat) (w : World) (hI : Legs w A l) (hz : l.length * 96 ≤ 140737488355328) (hg : CB w g 26 (kC am an)) (hj : SBox w j s) :
    Calls Try.prog 49 #[.slice A n cap, .func (.func 67) #[] #[.pointer (some ⟨g, 0, none⟩), .pointer (some ⟨j, 0, none⟩)]] w fun e w' => ∃ v, e = .returned v ∧ OwnR w' w.heap.size 47 9 v ((l.filter (NM.mine am an s)).map legV) ∧ Below w.heap.size w w' := by
  subst hn
  have hlen := hI.len
  have KN := Lib.hid (fun k (hk : k < l.length) => NM.filter_succ hk (NM.mine am an s))
  have KE : Hid ((l.take l.length).filter (NM.mine am an s) = l.filter (NM.mine am an s)) := Lib.hid (by rw [List.take_length])
  have KL : Hid (∀ k, k ≤ l.length → ((l.take k).filter (NM.mine am an s)).length ≤ k) := Lib.hid (fun k hk => by
    have := List.length_filter_le (NM.mine am an s) (l.take k)
    rw [List.length_take] at this
    omega)
  have K0 : Hid ((l.take 0).filter (NM.mine am an s) = []) := Lib.hid (by simp)
  have HC := Lib.hid (fun (x : NM.Leg) ww h1 h2 => nmine_any x am an s g j ww h1 h2)
  generalize l.filter (NM.mine am an s) = fl at *
  have HI := Lib.hid hI
  have HG := Lib.hid hg; have HJ := Lib.hid hj
  have hgl := hg.lt; have hjl := hj.lt
  clear hg hj
  clear hI
  go_enter Try.func49, Try.ntmps49
  go_wp2_with fail
  go_loopw [4, 6, 9] (fun v _ i wr => ∃ k : Nat, k ≤ l.length ∧ i = .int .i64 (k : Int) ∧ Hid (OwnR wr w.heap.size 47 9 v (((l.take k).filter (NM.mine am an s)).map legV)) ∧ Hid (Below w.heap.size w wr)) (fun _ _ i _ => l.length - (intOf i).toNat)
  case atStart => exact ⟨0, by omega, rfl, Lib.hid (by rw [K0.out]; exact OwnR.nil _ _ _ _), Lib.hid (Below.refl _ _)⟩
  case round =>
    obtain ⟨k, hk, rfl, HO, HB⟩ := hrel
    by_cases hlt : k < l.length
    · obtain ⟨b, off, x, rfl, hb, HV, q, d0, d1, d2, d3, d4, d5, d6, d7, d8⟩ := legs_get (HI.out.below HB.out) hlt
      have HN := Lib.hid (KN.out k hlt)
      rw [← NM.lAt_get hlt, HV.out] at HN
      have HBx := Lib.hid (HB.out.alloc HB.out.size (.cells (legC x) 47))
      have HOx := Lib.hid (HO.out.alloc (.cells (legC x) 47))
      have HX := Lib.hid (CB.new wr 47 (legC x))
      have HG0 := Lib.hid (HG.out.below HBx.out hgl); have HJ0 := Lib.hid (HJ.out.below HBx.out hjl)
      have hll := KL.out k hk
      clear q HV
      cases hp : (NM.mine am an s) x
      · have C1 := Lib.hid (fun ww h1 h2 => HC.out x ww h1 h2)
        simp only [hp] at C1
        rw [hp] at HN
        clear hp
        go_wp2_with fail
        generalize wr.alloc (.cells #[.string x.am, .string x.an, .string x.ser.prod, .int .i64 x.ser.kind, .int .i64 x.ser.expiry, .int .i64 x.ser.strike, .int .i64 x.qty, .int .i64 x.price, .int .i64 x.trade] 47) = w0 at *
        refine (C1.out _ HG0.out HJ0.out).mono ?_
        rintro e w1 ⟨rfl, b1⟩
        have HB1 := Lib.hid (HBx.out.trans (b1.mono HBx.out.size))
        have HO1 := Lib.hid (HOx.out.below b1)
        have HN2 : Hid ((l.take (k + 1)).filter (NM.mine am an s) = (l.take k).filter (NM.mine am an s)) := Lib.hid (by rw [HN.out]; simp)
        have HO2 := HO1
        rw [← HN2.out] at HO2
        clear b1 HN HO HO1 HOx
        go_wp2_with fail
        go_roundw
        case rel => exact ⟨k + 1, by omega, by go_num, HO2, HB1⟩
        case measure => simp [intOf]; omega
      · have C1 := Lib.hid (fun ww h1 h2 => HC.out x ww h1 h2)
        simp only [hp] at C1
        rw [hp] at HN
        clear hp
        have hxl := HX.out.lt
        go_wp2_with fail
        generalize wr.alloc (.cells #[.string x.am, .string x.an, .string x.ser.prod, .int .i64 x.ser.kind, .int .i64 x.ser.expiry, .int .i64 x.ser.strike, .int .i64 x.qty, .int .i64 x.price, .int .i64 x.trade] 47) = w0 at *
        refine (C1.out _ HG0.out HJ0.out).mono ?_
        rintro e w1 ⟨rfl, b1⟩
        have HB1 := Lib.hid (HBx.out.trans (b1.mono HBx.out.size))
        have HO1 := Lib.hid (HOx.out.below b1)
        have HX1 := Lib.hid (HX.out.below b1 hxl)
        have x0 : w1.cell? ⟨wr.heap.size, 0, none⟩ = some (.string x.am) := HX1.out.cell 0
        have x1 : w1.cell? ⟨wr.heap.size, 1, none⟩ = some (.string x.an) := HX1.out.cell 1
        have x2 : w1.cell? ⟨wr.heap.size, 2, none⟩ = some (.string x.ser.prod) := HX1.out.cell 2
        have x3 : w1.cell? ⟨wr.heap.size, 3, none⟩ = some (.int .i64 x.ser.kind) := HX1.out.cell 3
        have x4 : w1.cell? ⟨wr.heap.size, 4, none⟩ = some (.int .i64 x.ser.expiry) := HX1.out.cell 4
        have x5 : w1.cell? ⟨wr.heap.size, 5, none⟩ = some (.int .i64 x.ser.strike) := HX1.out.cell 5
        have x6 : w1.cell? ⟨wr.heap.size, 6, none⟩ = some (.int .i64 x.qty) := HX1.out.cell 6
        have x7 : w1.cell? ⟨wr.heap.size, 7, none⟩ = some (.int .i64 x.price) := HX1.out.cell 7
        have x8 : w1.cell? ⟨wr.heap.size, 8, none⟩ = some (.int .i64 x.trade) := HX1.out.cell 8
        have HN2 : Hid (((l.take (k + 1)).filter (NM.mine am an s)).map legV = ((l.take k).filter (NM.mine am an s)).map legV ++ [legV x]) := Lib.hid (by rw [HN.out]; simp)
        clear b1 HN HO HOx
        go_wp2_with (at_builtin; refine wpList_pushR _ [.string x.am, .string x.an, .string x.ser.prod, .int .i64 x.ser.kind, .int .i64 x.ser.expiry, .int .i64 x.ser.strike, .int .i64 x.qty, .int .i64 x.price, .int .i64 x.trade] (leg_one x) w.heap.size (((l.take k).filter (NM.mine am an s)).map legV) _ _ 51 47 9 96 _ Try.underlying51 info_leg rfl (by decide) rfl rfl rfl _ rfl rfl HO1.out ?c1 ?c2 ?c3 ?_)
        case c1 => rw [List.length_map]; omega
        case c2 => rw [List.length_map]; simp only [maxLen]; omega
        case c3 => exact HB1.out.size
        intro v2 w2 o2 b2 _ _
        have HO2 : Hid (OwnR w2 w.heap.size 47 9 v2 (((l.take (k + 1)).filter (NM.mine am an s)).map legV)) := Lib.hid (by rw [HN2.out]; exact o2)
        have HB2 := Lib.hid (HB1.out.trans b2)
        clear o2 b2 HO1 x0 x1 x2 x3 x4 x5 x6 x7 x8
        go_wp2_with fail
        go_roundw
        case rel => exact ⟨k + 1, by omega, by go_num, HO2, HB2⟩
        case measure => simp [intOf]; omega
    · obtain rfl : k = l.length := by omega
      rw [KE.out] at HO
      go_wp2_with fail
      go_ret
      exact ⟨_, rfl, HO.out, HB.out⟩

set_option maxHeartbeats 4000000 in
theorem nmatch_ofs (A : Option Addr) (l : List NM.Leg) (n cap : Nat) (hn : n = l.length) (s : EM.Ser) (j : Nat) (w : World) (hI : Legs w A l) (hz : l.length * 96 ≤ 140737488355328) (hj : SBox w j s) :
    Calls Try.prog 49 #[.slice A n cap, .func (.func 50) #[] #[.pointer (some ⟨j, 0, none⟩)]] w fun e w' => ∃ v, e = .returned v ∧ OwnR w' w.heap.size 47 9 v ((l.filter (NM.ofS s)).map legV) ∧ Below w.heap.size w w' := by
  subst hn
  have hlen := hI.len
  have KN := Lib.hid (fun k (hk : k < l.length) => NM.filter_succ hk (NM.ofS s))
  have KE : Hid ((l.take l.length).filter (NM.ofS s) = l.filter (NM.ofS s)) := Lib.hid (by rw [List.take_length])
  have KL : Hid (∀ k, k ≤ l.length → ((l.take k).filter (NM.ofS s)).length ≤ k) := Lib.hid (fun k hk => by
    have := List.length_filter_le (NM.ofS s) (l.take k)
    rw [List.length_take] at this
    omega)
  have K0 : Hid ((l.take 0).filter (NM.ofS s) = []) := Lib.hid (by simp)
  have HC := Lib.hid (fun (x : NM.Leg) ww h1 => nofs_any x s j ww h1)
  generalize l.filter (NM.ofS s) = fl at *
  have HI := Lib.hid hI
  have HJ := Lib.hid hj
  have hjl := hj.lt
  clear hj
  clear hI
  go_enter Try.func49, Try.ntmps49
  go_wp2_with fail
  go_loopw [4, 6, 9] (fun v _ i wr => ∃ k : Nat, k ≤ l.length ∧ i = .int .i64 (k : Int) ∧ Hid (OwnR wr w.heap.size 47 9 v (((l.take k).filter (NM.ofS s)).map legV)) ∧ Hid (Below w.heap.size w wr)) (fun _ _ i _ => l.length - (intOf i).toNat)
  case atStart => exact ⟨0, by omega, rfl, Lib.hid (by rw [K0.out]; exact OwnR.nil _ _ _ _), Lib.hid (Below.refl _ _)⟩
  case round =>
    obtain ⟨k, hk, rfl, HO, HB⟩ := hrel
    by_cases hlt : k < l.length
    · obtain ⟨b, off, x, rfl, hb, HV, q, d0, d1, d2, d3, d4, d5, d6, d7, d8⟩ := legs_get (HI.out.below HB.out) hlt
      have HN := Lib.hid (KN.out k hlt)
      rw [← NM.lAt_get hlt, HV.out] at HN
      have HBx := Lib.hid (HB.out.alloc HB.out.size (.cells (legC x) 47))
      have HOx := Lib.hid (HO.out.alloc (.cells (legC x) 47))
      have HX := Lib.hid (CB.new wr 47 (legC x))
      have HJ0 := Lib.hid (HJ.out.below HBx.out hjl)
      have hll := KL.out k hk
      clear q HV
      cases hp : (NM.ofS s) x
      · have C1 := Lib.hid (fun ww h1 => HC.out x ww h1)
        simp only [hp] at C1
        rw [hp] at HN
        clear hp
        go_wp2_with fail
        generalize wr.alloc (.cells #[.string x.am, .string x.an, .string x.ser.prod, .int .i64 x.ser.kind, .int .i64 x.ser.expiry, .int .i64 x.ser.strike, .int .i64 x.qty, .int .i64 x.price, .int .i64 x.trade] 47) = w0 at *
        refine (C1.out _ HJ0.out).mono ?_
        rintro e w1 ⟨rfl, b1⟩
        have HB1 := Lib.hid (HBx.out.trans (b1.mono HBx.out.size))
        have HO1 := Lib.hid (HOx.out.below b1)
        have HN2 : Hid ((l.take (k + 1)).filter (NM.ofS s) = (l.take k).filter (NM.ofS s)) := Lib.hid (by rw [HN.out]; simp)
        have HO2 := HO1
        rw [← HN2.out] at HO2
        clear b1 HN HO HO1 HOx
        go_wp2_with fail
        go_roundw
        case rel => exact ⟨k + 1, by omega, by go_num, HO2, HB1⟩
        case measure => simp [intOf]; omega
      · have C1 := Lib.hid (fun ww h1 => HC.out x ww h1)
        simp only [hp] at C1
        rw [hp] at HN
        clear hp
        have hxl := HX.out.lt
        go_wp2_with fail
        generalize wr.alloc (.cells #[.string x.am, .string x.an, .string x.ser.prod, .int .i64 x.ser.kind, .int .i64 x.ser.expiry, .int .i64 x.ser.strike, .int .i64 x.qty, .int .i64 x.price, .int .i64 x.trade] 47) = w0 at *
        refine (C1.out _ HJ0.out).mono ?_
        rintro e w1 ⟨rfl, b1⟩
        have HB1 := Lib.hid (HBx.out.trans (b1.mono HBx.out.size))
        have HO1 := Lib.hid (HOx.out.below b1)
        have HX1 := Lib.hid (HX.out.below b1 hxl)
        have x0 : w1.cell? ⟨wr.heap.size, 0, none⟩ = some (.string x.am) := HX1.out.cell 0
        have x1 : w1.cell? ⟨wr.heap.size, 1, none⟩ = some (.string x.an) := HX1.out.cell 1
        have x2 : w1.cell? ⟨wr.heap.size, 2, none⟩ = some (.string x.ser.prod) := HX1.out.cell 2
        have x3 : w1.cell? ⟨wr.heap.size, 3, none⟩ = some (.int .i64 x.ser.kind) := HX1.out.cell 3
        have x4 : w1.cell? ⟨wr.heap.size, 4, none⟩ = some (.int .i64 x.ser.expiry) := HX1.out.cell 4
        have x5 : w1.cell? ⟨wr.heap.size, 5, none⟩ = some (.int .i64 x.ser.strike) := HX1.out.cell 5
        have x6 : w1.cell? ⟨wr.heap.size, 6, none⟩ = some (.int .i64 x.qty) := HX1.out.cell 6
        have x7 : w1.cell? ⟨wr.heap.size, 7, none⟩ = some (.int .i64 x.price) := HX1.out.cell 7
        have x8 : w1.cell? ⟨wr.heap.size, 8, none⟩ = some (.int .i64 x.trade) := HX1.out.cell 8
        have HN2 : Hid (((l.take (k + 1)).filter (NM.ofS s)).map legV = ((l.take k).filter (NM.ofS s)).map legV ++ [legV x]) := Lib.hid (by rw [HN.out]; simp)
        clear b1 HN HO HOx
        go_wp2_with (at_builtin; refine wpList_pushR _ [.string x.am, .string x.an, .string x.ser.prod, .int .i64 x.ser.kind, .int .i64 x.ser.expiry, .int .i64 x.ser.strike, .int .i64 x.qty, .int .i64 x.price, .int .i64 x.trade] (leg_one x) w.heap.size (((l.take k).filter (NM.ofS s)).map legV) _ _ 51 47 9 96 _ Try.underlying51 info_leg rfl (by decide) rfl rfl rfl _ rfl rfl HO1.out ?c1 ?c2 ?c3 ?_)
        case c1 => rw [List.length_map]; omega
        case c2 => rw [List.length_map]; simp only [maxLen]; omega
        case c3 => exact HB1.out.size
        intro v2 w2 o2 b2 _ _
        have HO2 : Hid (OwnR w2 w.heap.size 47 9 v2 (((l.take (k + 1)).filter (NM.ofS s)).map legV)) := Lib.hid (by rw [HN2.out]; exact o2)
        have HB2 := Lib.hid (HB1.out.trans b2)
        clear o2 b2 HO1 x0 x1 x2 x3 x4 x5 x6 x7 x8
        go_wp2_with fail
        go_roundw
        case rel => exact ⟨k + 1, by omega, by go_num, HO2, HB2⟩
        case measure => simp [intOf]; omega
    · obtain rfl : k = l.length := by omega
      rw [KE.out] at HO
      go_wp2_with fail
      go_ret
      exact ⟨_, rfl, HO.out, HB.out⟩

theorem filt_legs {w : World} {B : Nat} {v : Value} {l : List NM.Leg} {p : NM.Leg → Bool} (h : OwnR w B 47 9 v ((l.filter p).map legV)) (hq : ∀ x ∈ l, legQ x) : ∃ A cap, v = .slice A (l.filter p).length cap ∧ Legs w A (l.filter p) ∧ (l.filter p).length ≤ cap := by
  obtain ⟨A, cap, rfl, hr, hc⟩ := h.recs
  rw [List.length_map] at hc ⊢
  exact ⟨A, cap, rfl, ⟨hr, fun x hx => hq x (List.mem_filter.1 hx).1⟩, hc⟩
theorem filt_small {l : List NM.Leg} (h : NM.checkE l = 0) (p : NM.Leg → Bool) : (∀ x ∈ l.filter p, -1048576 ≤ x.qty ∧ x.qty ≤ 1048576) ∧ (l.filter p).length ≤ 2048 := by
  obtain ⟨h1, h2⟩ := NM.check_inv h
  exact ⟨fun x hx => h2 x (List.mem_filter.1 hx).1, Nat.le_trans (List.length_filter_le _ _) h1⟩

set_option maxHeartbeats 2000000 in
theorem nheld_any (A : Option Addr) (l : List NM.Leg) (n cap : Nat) (hn : n = l.length) (am an : ByteArray) (s : EM.Ser) (w : World) (hI : Legs w A l) (hz : l.length * 96 ≤ 140737488355328) :
    Calls Try.prog 47 #[.slice A n cap, kA am an, serA s] w fun e w' => ∃ v, e = .returned v ∧ OwnR w' w.heap.size 47 9 v ((l.filter (NM.mine am an s)).map legV) ∧ Below w.heap.size w w' := by
  have hmf : ∀ (fn : Fn) (first cap : Array Value) (w : World), (Instr.makeFunc fn first cap).run Try.prog w = .ok (.func fn first cap) w := fun _ _ _ _ => rfl
  have HB0 := Lib.hid (((Below.refl w.heap.size w).alloc (Nat.le_refl _) (.cells (kC am an) 26)).alloc (by simp) (.cells #[.string s.prod, .int .i64 s.kind, .int .i64 s.expiry, .int .i64 s.strike] 43))
  have HG0 := Lib.hid ((CB.new w 26 (kC am an)).alloc (.cells #[.string s.prod, .int .i64 s.kind, .int .i64 s.expiry, .int .i64 s.strike] 43))
  have HJ0 := Lib.hid (SBox.new (w.alloc (.cells (kC am an) 26)) s)
  have e1 : (w.alloc (.cells (kC am an) 26)).heap.size = w.heap.size + 1 := by simp
  have e2 : ((w.alloc (.cells (kC am an) 26)).alloc (.cells #[.string s.prod, .int .i64 s.kind, .int .i64 s.expiry, .int .i64 s.strike] 43)).heap.size = w.heap.size + 2 := by simp
  rw [e1] at HJ0
  subst hn
  have C1 := Lib.hid (nmatch_mine A l l.length cap rfl am an s w.heap.size (w.heap.size + 1) _ (hI.below HB0.out) hz HG0.out HJ0.out)
  rw [e2] at C1
  clear hI hz HG0 HJ0 e1 e2
  go_enter Try.func47, Try.ntmps47
  go_wp2_with fail
  refine C1.out.mono ?_
  rintro e w1 ⟨v, rfl, o1, b1⟩
  have HB1 := Lib.hid (HB0.out.trans (b1.mono (by omega)))
  have HO1 := Lib.hid (o1.lower (B' := w.heap.size) (by omega))
  clear o1 b1
  go_wp2_with fail
  go_ret
  exact ⟨_, rfl, HO1.out, HB1.out⟩

set_option maxHeartbeats 2000000 in
theorem nnet_any (A : Option Addr) (l : List NM.Leg) (n cap : Nat) (hn : n = l.length) (am an : ByteArray) (s : EM.Ser) (w : World) (hI : Legs w A l) :
    Calls Try.prog 24 #[.slice A n cap, kA am an, serA s] w fun e w' => e = .returned (.tuple #[.int .i64 (NM.netN l am an s), .int .i64 (NM.checkE l)]) ∧ Below w.heap.size w w' := by
  have HB0 := Lib.hid (((Below.refl w.heap.size w).alloc (Nat.le_refl _) (.cells (kC am an) 26)).alloc (by simp) (.cells #[.string s.prod, .int .i64 s.kind, .int .i64 s.expiry, .int .i64 s.strike] 43))
  have HG0 := Lib.hid ((CB.new w 26 (kC am an)).alloc (.cells #[.string s.prod, .int .i64 s.kind, .int .i64 s.expiry, .int .i64 s.strike] 43))
  have HJ0 := Lib.hid (SBox.new (w.alloc (.cells (kC am an) 26)) s)
  have e1 : (w.alloc (.cells (kC am an) 26)).heap.size = w.heap.size + 1 := by simp
  have e2 : ((w.alloc (.cells (kC am an) 26)).alloc (.cells #[.string s.prod, .int .i64 s.kind, .int .i64 s.expiry, .int .i64 s.strike] 43)).heap.size = w.heap.size + 2 := by simp
  rw [e1] at HJ0
  have HG1 : Hid (w.heap.size < w.heap.size + 2 ∧ w.heap.size + 1 < w.heap.size + 2) := Lib.hid ⟨by omega, by omega⟩
  have C1 := Lib.hid (ncheck_any A l n cap hn _ (hI.below HB0.out))
  have HI := Lib.hid (hI.below HB0.out)
  have HS := Lib.hid e2
  rw [e2] at C1
  have HQ := Lib.hid hI.2
  have hxn := hn
  clear hI e1 e2
  by_cases hc : NM.checkE l = 0
  · have HF := Lib.hid (filt_small hc (NM.mine am an s))
    have HZ : Hid (l.length * 96 ≤ 140737488355328) := Lib.hid (by have := (NM.check_inv hc).1; omega)
    rw [NM.net_ok hc]
    rw [hc] at C1 ⊢
    have C2 := Lib.hid (fun ww h => nheld_any A l n cap hn am an s ww h HZ.out)
    have C3 := Lib.hid (fun A' n' cap' e ww h => ntotal_any A' (l.filter (NM.mine am an s)) n' cap' e ww h HF.out.1 HF.out.2)
    clear hc hn hxn
    go_enter Try.func24, Try.ntmps24
    go_wp2_with fail
    refine C1.out.mono ?_
    rintro e w1 ⟨rfl, b1⟩
    rw [← HS.out] at b1
    have HB1 := Lib.hid (HB0.out.trans (b1.mono HB0.out.size))
    have HI1 := Lib.hid (HI.out.below b1)
    have HG2 := Lib.hid (HG0.out.below b1 (by rw [HS.out]; omega))
    have HJ2 := Lib.hid (HJ0.out.below b1 (by rw [HS.out]; omega))
    have g0 : w1.cell? ⟨w.heap.size, 0, none⟩ = some (.string am) := HG2.out.cell 0
    have g1 : w1.cell? ⟨w.heap.size, 1, none⟩ = some (.string an) := HG2.out.cell 1
    obtain ⟨s0, s1, s2, s3⟩ := HJ2.out.cells
    clear b1 HG0 HJ0 HG2 HJ2
    go_wp2_with fail
    refine (C2.out _ HI1.out).mono ?_
    rintro e w2 ⟨v, rfl, o2, b2⟩
    obtain ⟨A2, c2, rfl, hL, hc2⟩ := filt_legs o2 HQ.out
    have HB2 := Lib.hid (HB1.out.trans (b2.mono HB1.out.size))
    have HL := Lib.hid hL
    clear o2 b2 hL g0 g1 s0 s1 s2 s3
    go_wp2_with fail
    refine (C3.out _ _ _ rfl _ HL.out).mono ?_
    rintro e w3 ⟨rfl, b3⟩
    have HB3 := Lib.hid (HB2.out.trans (b3.mono HB2.out.size))
    clear b3
    go_wp2_with fail
    go_ret2
    exact ⟨rfl, HB3.out⟩
  · rw [NM.net_no hc]
    have hne : (NM.checkE l != 0) = true := by simpa using hc
    generalize NM.checkE l = r at *
    clear hn hxn
    go_enter Try.func24, Try.ntmps24
    go_wp2_with fail
    refine C1.out.mono ?_
    rintro e w1 ⟨rfl, b1⟩
    rw [← HS.out] at b1
    have HB1 := Lib.hid (HB0.out.trans (b1.mono HB0.out.size))
    clear b1
    go_wp2_with fail
    go_ret2
    exact ⟨rfl, HB1.out⟩

set_option maxHeartbeats 2000000 in
theorem nhouse_any (A : Option Addr) (l : List NM.Leg) (n cap : Nat) (hn : n = l.length) (s : EM.Ser) (w : World) (hI : Legs w A l) :
    Calls Try.prog 26 #[.slice A n cap, serA s] w fun e w' => e = .returned (.tuple #[.int .i64 (NM.houseN l s), .int .i64 (NM.checkE l)]) ∧ Below w.heap.size w w' := by
  have hmf : ∀ (fn : Fn) (first cap : Array Value) (w : World), (Instr.makeFunc fn first cap).run Try.prog w = .ok (.func fn first cap) w := fun _ _ _ _ => rfl
  have HB0 := Lib.hid ((Below.refl w.heap.size w).alloc (Nat.le_refl _) (.cells #[.string s.prod, .int .i64 s.kind, .int .i64 s.expiry, .int .i64 s.strike] 43))
  have HJ0 := Lib.hid (SBox.new w s)
  have e2 : (w.alloc (.cells #[.string s.prod, .int .i64 s.kind, .int .i64 s.expiry, .int .i64 s.strike] 43)).heap.size = w.heap.size + 1 := by simp
  have C1 := Lib.hid (ncheck_any A l n cap hn _ (hI.below HB0.out))
  have HI := Lib.hid (hI.below HB0.out)
  have HS := Lib.hid e2
  rw [e2] at C1
  have HQ := Lib.hid hI.2
  clear hI e2
  by_cases hc : NM.checkE l = 0
  · have HF := Lib.hid (filt_small hc (NM.ofS s))
    have HZ : Hid (l.length * 96 ≤ 140737488355328) := Lib.hid (by have := (NM.check_inv hc).1; omega)
    rw [NM.house_ok hc]
    have hbd := NM.filter_bound hc (NM.ofS s)
    rw [hc] at C1 ⊢
    have C2 := Lib.hid (fun ww h hj => nmatch_ofs A l n cap hn s w.heap.size ww h HZ.out hj)
    have C3 := Lib.hid (fun A' n' cap' e ww h => ntotal_any A' (l.filter (NM.ofS s)) n' cap' e ww h HF.out.1 HF.out.2)
    generalize NM.qsum (l.filter (NM.ofS s)) = y at *
    have hb1 := hbd.1; have hb2 := hbd.2
    clear hc hn hbd
    go_enter Try.func26, Try.ntmps26
    go_wp2_with fail
    refine C1.out.mono ?_
    rintro e w1 ⟨rfl, b1⟩
    rw [← HS.out] at b1
    have HB1 := Lib.hid (HB0.out.trans (b1.mono HB0.out.size))
    have HI1 := Lib.hid (HI.out.below b1)
    have HJ2 := Lib.hid (HJ0.out.below b1 (by rw [HS.out]; omega))
    clear b1 HJ0
    go_wp2_with fail
    refine (C2.out _ HI1.out HJ2.out).mono ?_
    rintro e w2 ⟨v, rfl, o2, b2⟩
    obtain ⟨A2, c2, rfl, hL, hc2⟩ := filt_legs o2 HQ.out
    have HB2 := Lib.hid (HB1.out.trans (b2.mono HB1.out.size))
    have HL := Lib.hid hL
    clear o2 b2 hL
    go_wp2_with fail
    refine (C3.out _ _ _ rfl _ HL.out).mono ?_
    rintro e w3 ⟨rfl, b3⟩
    have HB3 := Lib.hid (HB2.out.trans (b3.mono HB2.out.size))
    clear b3
    go_wp2_with fail
    go_ret2
    exact ⟨rfl, HB3.out⟩
  · rw [NM.house_no hc]
    have hne : (NM.checkE l != 0) = true := by simpa using hc
    generalize NM.checkE l = r at *
    clear hn
    go_enter Try.func26, Try.ntmps26
    go_wp2_with fail
    refine C1.out.mono ?_
    rintro e w1 ⟨rfl, b1⟩
    rw [← HS.out] at b1
    have HB1 := Lib.hid (HB0.out.trans (b1.mono HB0.out.size))
    clear b1
    go_wp2_with fail
    go_ret2
    exact ⟨rfl, HB1.out⟩
end Go.Proofs.Ytafdjiilmogcjaa

/- Contracts of the small functions of layer 3 that look at bytes and digits. -/
namespace Go.Proofs.Ytafdjiilmogcjaa
open Go.RowKit

theorem isLetter_any (c : UInt8) (w : World) :
    Calls Try.prog 57 #[.int .u8 (c.toNat : Int)] w fun e w' => e = .returned (.bool (WM.letter c)) ∧ w = w' := by
  by_cases h1 : 97 ≤ (c.toNat : Int)
  · by_cases h2 : (c.toNat : Int) ≤ 122
    · rw [WM.letter_true.2 ⟨h1, h2⟩]
      go_enter Try.func57, Try.ntmps57
      go_wp2
      go_ret
      exact ⟨rfl, rfl⟩
    · rw [WM.letter_false.2 (by omega)]
      go_enter Try.func57, Try.ntmps57
      go_wp2
      go_ret
      exact ⟨rfl, rfl⟩
  · rw [WM.letter_false.2 (by omega)]
    go_enter Try.func57, Try.ntmps57
    go_wp2
    go_ret
    exact ⟨rfl, rfl⟩

theorem isDigit_any (c : UInt8) (w : World) :
    Calls Try.prog 58 #[.int .u8 (c.toNat : Int)] w fun e w' => e = .returned (.bool (WM.dig c)) ∧ w = w' := by
  by_cases h1 : 48 ≤ (c.toNat : Int)
  · by_cases h2 : (c.toNat : Int) ≤ 57
    · rw [WM.dig_true.2 ⟨h1, h2⟩]
      go_enter Try.func58, Try.ntmps58
      go_wp2
      go_ret
      exact ⟨rfl, rfl⟩
    · rw [WM.dig_false.2 (by omega)]
      go_enter Try.func58, Try.ntmps58
      go_wp2
      go_ret
      exact ⟨rfl, rfl⟩
  · rw [WM.dig_false.2 (by omega)]
    go_enter Try.func58, Try.ntmps58
    go_wp2
    go_ret
    exact ⟨rfl, rfl⟩

theorem all_step {p : UInt8 → Bool} {s : ByteArray} {k : Nat} (h : k < s.size) (ha : ((L s).take k).all p = true) (hk : p s[k] = true) : ((L s).take (k + 1)).all p = true := by
  rw [L_take_succ s k h, WM.all_snoc, ha, hk]; rfl
theorem all_not {p : UInt8 → Bool} {s : ByteArray} {k : Nat} (h : k < s.size) (hk : p s[k] = false) : (L s).all p = false :=
  WM.not_all k (by rw [L_len]; exact h) (by rw [L_get s k h]; exact hk)

end Go.Proofs.Ytafdjiilmogcjaa

/- Contracts: names. -/
namespace Go.Proofs.Ytafdjiilmogcjaa
open Go.RowKit
set_option linter.unusedVariables false

def lord (c : UInt8) : Bool := WM.letter c || WM.dig c
theorem name_eq (l : List UInt8) : WM.name l = (l.all lord && WM.letter (l.headD 0) && decide (l.length ≤ 12)) := rfl

set_option maxHeartbeats 1000000 in
theorem name_any (s : ByteArray) (w : World) (hs : s.size ≤ 9223372036854775807) :
    Calls Try.prog 34 #[.string s] w fun e w' => e = .returned (.bool (WM.name (L s))) ∧ w = w' := by
  have HQ := name_eq (L s)
  generalize hv : WM.name (L s) = v at *
  clear hv
  rw [L_len] at HQ
  by_cases h0 : s.size = 0
  · rw [L_nil h0] at HQ
    have HN : Hid (v = false) := Lib.hid (by rw [HQ]; rfl)
    clear HQ
    have c0 : ((s.size : Int) == 0) = true := beq_t (by omega)
    go_enter Try.func34, Try.ntmps34
    go_wp2
    go_ret
    exact ⟨by rw [HN.out]; rfl, rfl⟩
  · have hp : 0 < s.size := by omega
    rw [L_head s hp] at HQ
    have c0 : ((s.size : Int) == 0) = false := beq_f (by omega)
    clear h0
    by_cases h1 : 12 < s.size
    · have HN : Hid (v = false) := Lib.hid (by
        rw [HQ, show decide (s.size ≤ 12) = false by simp; omega]; simp)
      clear HQ
      go_enter Try.func34, Try.ntmps34
      go_wp2
      go_ret
      exact ⟨by rw [HN.out]; rfl, rfl⟩
    · have e1 : decide (s.size ≤ 12) = true := by simp; omega
      rw [e1] at HQ
      clear e1
      cases hl : WM.letter s[0]
      · have HN : Hid (v = false) := Lib.hid (by rw [HQ, hl]; simp)
        clear HQ
        go_enter Try.func34, Try.ntmps34
        go_wp2_with (go_at_call 57; refine (isLetter_any _ _).mono ?_; rintro e w' ⟨rfl, rfl⟩)
        go_ret
        exact ⟨by rw [HN.out]; rfl, rfl⟩
      · have HN : Hid (v = (L s).all lord) := Lib.hid (by rw [HQ, hl]; simp)
        clear HQ
        go_enter Try.func34, Try.ntmps34
        go_wp2_with (go_at_call 57; refine (isLetter_any _ _).mono ?_; rintro e w' ⟨rfl, rfl⟩)
        go_loop [20] (fun i => ∃ k : Nat, k ≤ s.size ∧ i = .int .i64 k ∧ Hid (((L s).take k).all lord = true)) (fun i => s.size - (intOf i).toNat)
        case atStart => exact ⟨0, by omega, rfl, Lib.hid rfl⟩
        case round =>
          clear hl
          obtain ⟨k, hk, rfl, HA⟩ := hrel
          by_cases hlt : k < s.size
          · cases hl : WM.letter s[k]
            · cases hd : WM.dig s[k]
              · have HF := Lib.hid (all_not (p := lord) hlt (by unfold lord; rw [hl, hd]; rfl))
                go_wp2_with (first
                  | (go_at_call 57; refine (isLetter_any _ _).mono ?_; rintro e w' ⟨rfl, rfl⟩)
                  | (go_at_call 58; refine (isDigit_any _ _).mono ?_; rintro e w' ⟨rfl, rfl⟩))
                go_ret
                exact ⟨by rw [HN.out, HF.out]; rfl, rfl⟩
              · have HF := Lib.hid (all_step (p := lord) hlt HA.out (by unfold lord; rw [hl, hd]; rfl))
                go_wp2_with (first
                  | (go_at_call 57; refine (isLetter_any _ _).mono ?_; rintro e w' ⟨rfl, rfl⟩)
                  | (go_at_call 58; refine (isDigit_any _ _).mono ?_; rintro e w' ⟨rfl, rfl⟩))
                go_round
                case rel => exact ⟨k + 1, by omega, by go_num, HF⟩
                case measure => simp [intOf]; omega
            · have HF := Lib.hid (all_step (p := lord) hlt HA.out (by unfold lord; rw [hl]; rfl))
              go_wp2_with (first
                | (go_at_call 57; refine (isLetter_any _ _).mono ?_; rintro e w' ⟨rfl, rfl⟩)
                | (go_at_call 58; refine (isDigit_any _ _).mono ?_; rintro e w' ⟨rfl, rfl⟩))
              go_round
              case rel => exact ⟨k + 1, by omega, by go_num, HF⟩
              case measure => simp [intOf]; omega
          · obtain rfl : k = s.size := by omega
            have HE := HA.out
            rw [L_take_all] at HE
            have HE := Lib.hid HE
            go_wp2
            go_ret
            exact ⟨by rw [HN.out, HE.out]; rfl, rfl⟩

set_option maxHeartbeats 1000000 in
theorem rname_any (s : ByteArray) (w : World) (hs : s.size ≤ 9223372036854775807) :
    Calls Try.prog 78 #[.string s] w fun e w' => e = .returned (.bool (WM.name (L s))) ∧ w = w' := by
  have HQ := name_eq (L s)
  generalize hv : WM.name (L s) = v at *
  clear hv
  rw [L_len] at HQ
  have HQ' := Lib.hid HQ
  clear HQ
  have HQ := HQ'
  clear HQ'
  go_enter Try.func78, Try.ntmps78
  go_wp2
  go_loop [3] (fun i => ∃ k : Nat, k ≤ s.size ∧ i = .int .i64 k ∧ Hid (((L s).take k).all lord = true) ∧ Hid (∀ h : 0 < s.size, 0 < k → WM.letter s[0] = true)) (fun i => s.size - (intOf i).toNat)
  case atStart => exact ⟨0, by omega, rfl, Lib.hid rfl, Lib.hid (fun _ h => by omega)⟩
  case round =>
    obtain ⟨k, hk, rfl, HA, HB⟩ := hrel
    by_cases hlt : k < s.size
    · have hp : 0 < s.size := by omega
      have H0 := Lib.hid (L_head s hp)
      cases hl : WM.letter s[k]
      · by_cases hk0 : k = 0
        · subst hk0
          have HN : Hid (v = false) := Lib.hid (by rw [HQ.out, H0.out, hl]; simp)
          rcases WM.letter_false.1 hl with h | h
          · clear hl
            go_wp2
            go_ret
            exact ⟨by rw [HN.out]; rfl, rfl⟩
          · clear hl
            have h2 : 97 ≤ (s[0].toNat : Int) := by omega
            have h3 : decide ((s[0].toNat : Int) ≤ 122) = false := decide_eq_false (by omega)
            go_wp2
            go_ret
            exact ⟨by rw [HN.out]; rfl, rfl⟩
        · have ck : ((k : Int) == 0) = false := by simp; omega
          have HL := Lib.hid (HB.out hp (by omega))
          cases hd : WM.dig s[k]
          · have HF := all_not (p := lord) hlt (by unfold lord; rw [hl, hd]; rfl)
            have HN : Hid (v = false) := Lib.hid (by rw [HQ.out, HF]; simp)
            clear HF
            rcases WM.letter_false.1 hl with h | h
            · rcases WM.dig_false.1 hd with h' | h'
              · clear hl hd
                go_wp2
                go_ret
                exact ⟨by rw [HN.out]; rfl, rfl⟩
              · clear hl hd
                have h4 : decide ((s[k].toNat : Int) < 48) = false := decide_eq_false (by omega)
                go_wp2
                go_ret
                exact ⟨by rw [HN.out]; rfl, rfl⟩
            · have h' : 57 < (s[k].toNat : Int) := by omega
              have h2 : 97 ≤ (s[k].toNat : Int) := by omega
              have h3 : decide ((s[k].toNat : Int) ≤ 122) = false := decide_eq_false (by omega)
              have h4 : decide ((s[k].toNat : Int) < 48) = false := decide_eq_false (by omega)
              clear hl hd
              go_wp2
              go_ret
              exact ⟨by rw [HN.out]; rfl, rfl⟩
          · have HF := Lib.hid (all_step (p := lord) hlt HA.out (by unfold lord; rw [hl, hd]; rfl))
            obtain ⟨d1, d2⟩ := WM.dig_true.1 hd
            have d3 : (s[k].toNat : Int) < 97 := by omega
            clear hl hd
            go_wp2
            go_round
            case rel => exact ⟨k + 1, by omega, by go_num, HF, Lib.hid (fun _ _ => HL.out)⟩
            case measure => simp [intOf]; omega
      · have HF := Lib.hid (all_step (p := lord) hlt HA.out (by unfold lord; rw [hl]; rfl))
        obtain ⟨d1, d2⟩ := WM.letter_true.1 hl
        have HL : Hid (WM.letter s[0] = true) := Lib.hid (by
          by_cases hk0 : k = 0
          · subst hk0; exact hl
          · exact HB.out hp (by omega))
        clear hl
        go_wp2
        go_round
        case rel => exact ⟨k + 1, by omega, by go_num, HF, Lib.hid (fun _ _ => HL.out)⟩
        case measure => simp [intOf]; omega
    · obtain rfl : k = s.size := by omega
      have HE := HA.out
      rw [L_take_all] at HE
      have HE := Lib.hid HE
      by_cases h0 : s.size = 0
      · have HN : Hid (v = false) := Lib.hid (by rw [HQ.out, L_nil h0]; rfl)
        have c0 : decide (0 < s.size) = false := decide_eq_false (by omega)
        go_wp2
        go_ret
        exact ⟨by rw [HN.out]; rfl, rfl⟩
      · have hp : 0 < s.size := by omega
        have HN : Hid (v = decide (s.size ≤ 12)) := Lib.hid (by rw [HQ.out, HE.out, L_head s hp, HB.out hp hp]; simp)
        by_cases h1 : s.size ≤ 12
        · have HM : Hid (v = true) := Lib.hid (by rw [HN.out]; simpa using h1)
          go_wp2
          go_ret
          exact ⟨by rw [HM.out]; first | rfl | (simp_all; omega), rfl⟩
        · have HM : Hid (v = false) := Lib.hid (by rw [HN.out]; simpa using h1)
          have c1 : decide (s.size ≤ 12) = false := by simpa using h1
          go_wp2
          go_ret
          exact ⟨by rw [HM.out]; first | rfl | (simp_all; omega), rfl⟩
end Go.Proofs.Ytafdjiilmogcjaa

/- Contracts of layer 9: products compared, the bounds, Check. -/
namespace Go.Proofs.Ytafdjiilmogcjaa
open Go.RowKit Go.Recs
set_option linter.unusedVariables false
abbrev prodA (p : QM.Prod) : Value := .agg #[.string p.name, .int .i64 p.cur, .int .i64 p.mult, .int .i64 p.tick, .int .i64 p.low, .int .i64 p.high, .bool p.phys]
def peq (x y : QM.Prod) : Bool := (x.name.toList == y.name.toList) && ((x.cur == y.cur) && ((x.mult == y.mult) && ((x.tick == y.tick) && ((x.low == y.low) && ((x.high == y.high) && (x.phys == y.phys))))))
theorem peq_iff {x y : QM.Prod} : peq x y = true ↔ x = y := by
  constructor
  · intro h
    unfold peq at h
    simp only [Bool.and_eq_true, beq_iff_eq] at h
    obtain ⟨h1, h2, h3, h4, h5, h6, h7⟩ := h
    cases x; cases y
    simp only at h1 h2 h3 h4 h5 h6 h7
    rw [EM.toList_inj h1, h2, h3, h4, h5, h6, h7]
  · rintro rfl
    simp [peq]
theorem peq_false {x y : QM.Prod} : peq x y = false ↔ x ≠ y := by rw [Bool.eq_false_iff, ne_eq, peq_iff]
theorem prod_in (x y : QM.Prod) (w : World) : (Op.equalIn 10000 65 (prodA x) (prodA y)).run Try.prog w = .ok (peq x y) w := by
  have u3 := Try.underlying3
  have u4 := Try.underlying4
  have u9 := Try.underlying9
  have a3 := Try.isAgg3
  have a4 := Try.isAgg4
  have a9 := Try.isAgg9
  have z3 := Try.sizeOf3
  have z4 := Try.sizeOf4
  have z9 := Try.sizeOf9
  have hS : Try.prog.underlying 65 = some (.struct (Try.prog.fieldsOf 65)) := by kernel_rfl
  have hp : Try.prog.stoodInHeld 65 = false := by kernel_rfl
  rw [show (10000 : Nat) = 9999 + 1 from rfl, run_equalIn_agg w 9999 65 _ _ hS hp]
  simp only [Program.fieldsOf, Try.underlying65]
  unfold peq
  go_simp
  by_cases h1 : x.name.toList = y.name.toList <;> by_cases h2 : x.cur = y.cur <;> by_cases h3 : x.mult = y.mult <;> by_cases h4 : x.tick = y.tick <;> by_cases h5 : x.low = y.low <;> by_cases h6 : x.high = y.high <;> by_cases h7 : x.phys = y.phys <;> simp [h1, h2, h3, h4, h5, h6, h7]
theorem prod_guard : Try.prog.eqGuardType Try.prog.depth 65 = false := by kernel_rfl

theorem qwithin_any (n a b : Int) (w : World) :
    Calls Try.prog 69 #[.int .i64 n, .int .i64 a, .int .i64 b] w fun e w' => e = .returned (.bool (QM.within n a b)) ∧ w = w' := by
  by_cases h1 : a ≤ n
  · by_cases h2 : n ≤ b
    · have e : QM.within n a b = true := QM.within_true.2 ⟨h1, h2⟩
      rw [e]; clear e
      go_enter Try.func69, Try.ntmps69
      go_wp2
      go_ret
      exact ⟨rfl, rfl⟩
    · have e : QM.within n a b = false := QM.within_false.2 (.inr (by omega))
      rw [e]; clear e
      go_enter Try.func69, Try.ntmps69
      go_wp2
      go_ret
      exact ⟨rfl, rfl⟩
  · have e : QM.within n a b = false := QM.within_false.2 (.inl (by omega))
    rw [e]; clear e
    go_enter Try.func69, Try.ntmps69
    go_wp2
    go_ret
    exact ⟨rfl, rfl⟩
theorem rqwithin_any (n a b : Int) (w : World) :
    Calls Try.prog 73 #[.int .i64 n, .int .i64 a, .int .i64 b] w fun e w' => e = .returned (.bool (QM.within n a b)) ∧ w = w' := by
  by_cases h1 : a ≤ n
  · by_cases h2 : n ≤ b
    · have e : QM.within n a b = true := QM.within_true.2 ⟨h1, h2⟩
      rw [e]; clear e
      go_enter Try.func73, Try.ntmps73
      go_wp2
      go_ret
      exact ⟨rfl, rfl⟩
    · have e : QM.within n a b = false := QM.within_false.2 (.inr (by omega))
      rw [e]; clear e
      go_enter Try.func73, Try.ntmps73
      go_wp2
      go_ret
      exact ⟨rfl, rfl⟩
  · have e : QM.within n a b = false := QM.within_false.2 (.inl (by omega))
    rw [e]; clear e
    go_enter Try.func73, Try.ntmps73
    go_wp2
    go_ret
    exact ⟨rfl, rfl⟩
theorem qmul_any (n t : Int) (ht : t ≠ 0) (w : World) :
    Calls Try.prog 77 #[.int .i64 n, .int .i64 t] w fun e w' => e = .returned (.bool (n.tmod t == 0)) ∧ w = w' := by
  have h0 : ¬ t = 0 := ht
  go_enter Try.func77, Try.ntmps77
  go_wp2
  go_ret
  exact ⟨rfl, rfl⟩
end Go.Proofs.Ytafdjiilmogcjaa

/- Contracts of layer 9: Check, the program's and the reference's. -/
namespace Go.Proofs.Ytafdjiilmogcjaa
open Go.RowKit Go.Recs
set_option linter.unusedVariables false

theorem ck1 {p : QM.Prod} (h : WM.name (L p.name) = false) : QM.checkE p = 10 := by unfold QM.checkE; rw [if_pos (show QM.nameOk p = false from h)]
theorem ck2 {p : QM.Prod} (h : WM.name (L p.name) = true) (h2 : QM.within p.cur 0 7 = false) : QM.checkE p = 25 := by
  unfold QM.checkE; rw [if_neg (show ¬ QM.nameOk p = false by rw [show QM.nameOk p = true from h]; decide), if_pos h2]
theorem ck3 {p : QM.Prod} (h : WM.name (L p.name) = true) (h2 : QM.within p.cur 0 7 = true) (h3 : QM.within p.mult 1 4096 = false) : QM.checkE p = 2 := by
  unfold QM.checkE; rw [if_neg (show ¬ QM.nameOk p = false by rw [show QM.nameOk p = true from h]; decide), if_neg (by rw [h2]; decide), if_pos h3]
theorem ck4 {p : QM.Prod} (h : WM.name (L p.name) = true) (h2 : QM.within p.cur 0 7 = true) (h3 : QM.within p.mult 1 4096 = true) (h4 : QM.within p.tick 1 16777216 = false) : QM.checkE p = 16 := by
  unfold QM.checkE; rw [if_neg (show ¬ QM.nameOk p = false by rw [show QM.nameOk p = true from h]; decide), if_neg (by rw [h2]; decide), if_neg (by rw [h3]; decide), if_pos h4]
theorem ck5 {p : QM.Prod} (h : WM.name (L p.name) = true) (h2 : QM.within p.cur 0 7 = true) (h3 : QM.within p.mult 1 4096 = true) (h4 : QM.within p.tick 1 16777216 = true) :
    QM.checkE p = if QM.rangeOk p = false then 17 else 0 := by
  unfold QM.checkE; rw [if_neg (show ¬ QM.nameOk p = false by rw [show QM.nameOk p = true from h]; decide), if_neg (by rw [h2]; decide), if_neg (by rw [h3]; decide), if_neg (by rw [h4]; decide)]
theorem rg (p : QM.Prod) : QM.rangeOk p = (QM.within p.low (-16777216) 16777216 && QM.within p.high (-16777216) 16777216 && decide (p.low ≤ p.high) && (p.low.tmod p.tick == 0) && (p.high.tmod p.tick == 0)) := rfl

set_option maxHeartbeats 2000000 in
theorem qcheck_any (p : QM.Prod) (hq : prodQ p) (w : World) :
    Calls Try.prog 68 #[prodA p] w fun e w' => e = .returned (.int .i64 (QM.checkE p)) ∧ Below w.heap.size w w' := by
  obtain ⟨hn, _, _, _, _, _⟩ := hq
  have hn2 : p.name.size ≤ 9223372036854775807 := hn
  have C0 := Lib.hid (fun ww => name_any p.name ww hn2)
  have C1 := Lib.hid (fun ww => qwithin_any p.cur 0 7 ww)
  have C2 := Lib.hid (fun ww => qwithin_any p.mult 1 4096 ww)
  have C3 := Lib.hid (fun ww => qwithin_any p.tick 1 16777216 ww)
  have C4 := Lib.hid (fun ww => qwithin_any p.low (-16777216) 16777216 ww)
  have C5 := Lib.hid (fun ww => qwithin_any p.high (-16777216) 16777216 ww)
  have HT : Hid (QM.within p.tick 1 16777216 = true → p.tick ≠ 0) := Lib.hid (fun h => by have := QM.within_true.1 h; omega)
  have C6 := Lib.hid (fun (h : p.tick ≠ 0) ww => qmul_any p.low p.tick h ww)
  have C7 := Lib.hid (fun (h : p.tick ≠ 0) ww => qmul_any p.high p.tick h ww)
  have K1 := Lib.hid (@ck1 p); have K2 := Lib.hid (@ck2 p); have K3 := Lib.hid (@ck3 p); have K4 := Lib.hid (@ck4 p); have K5 := Lib.hid (@ck5 p)
  rw [rg] at K5
  have HB := Lib.hid (fun o => (Below.refl w.heap.size w).alloc (Nat.le_refl _) o)
  generalize QM.checkE p = x at *
  generalize WM.name (L p.name) = b0 at *
  generalize QM.within p.cur 0 7 = b1 at *
  generalize QM.within p.mult 1 4096 = b2 at *
  generalize QM.within p.tick 1 16777216 = b3 at *
  generalize QM.within p.low (-16777216) 16777216 = b4 at *
  generalize QM.within p.high (-16777216) 16777216 = b5 at *
  generalize (p.low.tmod p.tick == 0) = b6 at *
  generalize (p.high.tmod p.tick == 0) = b7 at *
  clear hn hn2
  go_enter Try.func68, Try.ntmps68
  go_wp2_with fail
  refine (C0.out _).mono ?_
  rintro e w1 ⟨rfl, rfl⟩
  cases b0
  · have HX := Lib.hid (K1.out (by trivial))
    go_wp2_with fail
    go_ret
    exact ⟨by rw [HX.out]; rfl, HB.out _⟩
  go_wp2_with fail
  refine (C1.out _).mono ?_
  rintro e w1 ⟨rfl, rfl⟩
  cases b1
  · have HX := Lib.hid (K2.out (by trivial) (by trivial))
    go_wp2_with fail
    go_ret
    exact ⟨by rw [HX.out]; rfl, HB.out _⟩
  go_wp2_with fail
  refine (C2.out _).mono ?_
  rintro e w1 ⟨rfl, rfl⟩
  cases b2
  · have HX := Lib.hid (K3.out (by trivial) (by trivial) (by trivial))
    go_wp2_with fail
    go_ret
    exact ⟨by rw [HX.out]; rfl, HB.out _⟩
  go_wp2_with fail
  refine (C3.out _).mono ?_
  rintro e w1 ⟨rfl, rfl⟩
  cases b3
  · have HX := Lib.hid (K4.out (by trivial) (by trivial) (by trivial) (by trivial))
    go_wp2_with fail
    go_ret
    exact ⟨by rw [HX.out]; rfl, HB.out _⟩
  have HX := Lib.hid (K5.out (by trivial) (by trivial) (by trivial) (by trivial))
  have HT2 := Lib.hid (HT.out (by trivial))
  clear K1 K2 K3 K4 K5 HT
  go_wp2_with fail
  refine (C4.out _).mono ?_
  rintro e w1 ⟨rfl, rfl⟩
  cases b4
  · go_wp2_with fail
    go_ret
    exact ⟨by rw [HX.out]; simp, HB.out _⟩
  go_wp2_with fail
  refine (C5.out _).mono ?_
  rintro e w1 ⟨rfl, rfl⟩
  cases b5
  · go_wp2_with fail
    go_ret
    exact ⟨by rw [HX.out]; simp, HB.out _⟩
  by_cases hlh : p.high < p.low
  · have hd : decide (p.low ≤ p.high) = false := by simp; omega
    rw [hd] at HX; clear hd
    go_wp2_with fail
    go_ret
    exact ⟨by rw [HX.out]; simp, HB.out _⟩
  have hd : decide (p.low ≤ p.high) = true := by simp; omega
  rw [hd] at HX; clear hd
  go_wp2_with fail
  refine (C6.out HT2.out _).mono ?_
  rintro e w1 ⟨rfl, rfl⟩
  cases b6
  · go_wp2_with fail
    go_ret
    exact ⟨by rw [HX.out]; simp, HB.out _⟩
  go_wp2_with fail
  refine (C7.out HT2.out _).mono ?_
  rintro e w1 ⟨rfl, rfl⟩
  cases b7
  · go_wp2_with fail
    go_ret
    exact ⟨by rw [HX.out]; simp, HB.out _⟩
  go_wp2_with fail
  go_ret
  exact ⟨by rw [HX.out]; simp, HB.out _⟩

set_option maxHeartbeats 2000000 in
theorem rqcheck_any (p : QM.Prod) (hq : prodQ p) (w : World) :
    Calls Try.prog 72 #[prodA p] w fun e w' => e = .returned (.int .i64 (QM.checkE p)) ∧ Below w.heap.size w w' := by
  obtain ⟨hn, _, _, _, _, _⟩ := hq
  have hn2 : p.name.size ≤ 9223372036854775807 := hn
  have C0 := Lib.hid (fun ww => rname_any p.name ww hn2)
  have C1 := Lib.hid (fun ww => rqwithin_any p.cur 0 7 ww)
  have C2 := Lib.hid (fun ww => rqwithin_any p.mult 1 4096 ww)
  have C3 := Lib.hid (fun ww => rqwithin_any p.tick 1 16777216 ww)
  have C4 := Lib.hid (fun ww => rqwithin_any p.low (-16777216) 16777216 ww)
  have C5 := Lib.hid (fun ww => rqwithin_any p.high (-16777216) 16777216 ww)
  have HT : Hid (QM.within p.tick 1 16777216 = true → p.tick ≠ 0) := Lib.hid (fun h => by have := QM.within_true.1 h; omega)
  have K1 := Lib.hid (@ck1 p); have K2 := Lib.hid (@ck2 p); have K3 := Lib.hid (@ck3 p); have K4 := Lib.hid (@ck4 p); have K5 := Lib.hid (@ck5 p)
  rw [rg] at K5
  have HB := Lib.hid (fun o => (Below.refl w.heap.size w).alloc (Nat.le_refl _) o)
  generalize QM.checkE p = x at *
  generalize WM.name (L p.name) = b0 at *
  generalize QM.within p.cur 0 7 = b1 at *
  generalize QM.within p.mult 1 4096 = b2 at *
  generalize QM.within p.tick 1 16777216 = b3 at *
  generalize QM.within p.low (-16777216) 16777216 = b4 at *
  generalize QM.within p.high (-16777216) 16777216 = b5 at *
  clear hn hn2
  go_enter Try.func72, Try.ntmps72
  go_wp2_with fail
  refine (C0.out _).mono ?_
  rintro e w1 ⟨rfl, rfl⟩
  cases b0
  · have HX := Lib.hid (K1.out (by trivial))
    go_wp2_with fail
    go_ret
    exact ⟨by rw [HX.out]; rfl, HB.out _⟩
  go_wp2_with fail
  refine (C1.out _).mono ?_
  rintro e w1 ⟨rfl, rfl⟩
  cases b1
  · have HX := Lib.hid (K2.out (by trivial) (by trivial))
    go_wp2_with fail
    go_ret
    exact ⟨by rw [HX.out]; rfl, HB.out _⟩
  go_wp2_with fail
  refine (C2.out _).mono ?_
  rintro e w1 ⟨rfl, rfl⟩
  cases b2
  · have HX := Lib.hid (K3.out (by trivial) (by trivial) (by trivial))
    go_wp2_with fail
    go_ret
    exact ⟨by rw [HX.out]; rfl, HB.out _⟩
  go_wp2_with fail
  refine (C3.out _).mono ?_
  rintro e w1 ⟨rfl, rfl⟩
  cases b3
  · have HX := Lib.hid (K4.out (by trivial) (by trivial) (by trivial) (by trivial))
    go_wp2_with fail
    go_ret
    exact ⟨by rw [HX.out]; rfl, HB.out _⟩
  have HX := Lib.hid (K5.out (by trivial) (by trivial) (by trivial) (by trivial))
  have HT2 : ¬ p.tick = 0 := HT.out (by trivial)
  clear K1 K2 K3 K4 K5 HT
  go_wp2_with fail
  refine (C4.out _).mono ?_
  rintro e w1 ⟨rfl, rfl⟩
  cases b4
  · go_wp2_with fail
    go_ret
    exact ⟨by rw [HX.out]; simp, HB.out _⟩
  go_wp2_with fail
  refine (C5.out _).mono ?_
  rintro e w1 ⟨rfl, rfl⟩
  cases b5
  · go_wp2_with fail
    go_ret
    exact ⟨by rw [HX.out]; simp, HB.out _⟩
  by_cases hlh : p.high < p.low
  · have hd : decide (p.low ≤ p.high) = false := by simp; omega
    rw [hd] at HX; clear hd
    go_wp2_with fail
    go_ret
    exact ⟨by rw [HX.out]; simp, HB.out _⟩
  have hd : decide (p.low ≤ p.high) = true := by simp; omega
  rw [hd] at HX; clear hd
  cases h6 : (p.low.tmod p.tick == 0)
  · rw [h6] at HX
    have h6' : ¬ p.low.tmod p.tick = 0 := by simpa using h6
    have h6b : (p.low.tmod p.tick != 0) = true := by rw [bne, h6]; rfl
    go_wp2_with fail
    go_ret
    exact ⟨by rw [HX.out]; simp, HB.out _⟩
  rw [h6] at HX
  have h6' : p.low.tmod p.tick = 0 := by simpa using h6
  have h6b : (p.low.tmod p.tick != 0) = false := by rw [bne, h6]; rfl
  cases h7 : (p.high.tmod p.tick == 0)
  · rw [h7] at HX
    have h7' : ¬ p.high.tmod p.tick = 0 := by simpa using h7
    have h7b : (p.high.tmod p.tick != 0) = true := by rw [bne, h7]; rfl
    go_wp2_with fail
    go_ret
    exact ⟨by rw [HX.out]; simp, HB.out _⟩
  rw [h7] at HX
  have h7' : p.high.tmod p.tick = 0 := by simpa using h7
  have h7b : (p.high.tmod p.tick != 0) = false := by rw [bne, h7]; rfl
  go_wp2_with fail
  go_ret
  exact ⟨by rw [HX.out]; simp, HB.out _⟩
end Go.Proofs.Ytafdjiilmogcjaa

/- Layer 9's mathematics: roundings and values, case by case. -/
namespace QM
open CM
theorem md_bad {a b c mode : Int} (h : within mode 1 5 = false) : mdE a b c mode = 2 ∧ mdN a b c mode = 0 := by
  have hA : mdA a b c mode = false := by
    rw [within_false] at h
    unfold mdA
    rcases h with h | h
    · simp [show ¬ 1 ≤ mode by omega]
    · simp [show ¬ mode ≤ 5 by omega]
  simp [mdE, mdN, hA]
theorem md_small {x t mode : Int} (x1 : -16777216 ≤ x) (x2 : x ≤ 16777216) (t1 : 1 ≤ t) (t2 : t ≤ 16777216) (h : within mode 1 5 = true) :
    mdE x 1 t mode = 0 ∧ -16777217 ≤ mdN x 1 t mode ∧ mdN x 1 t mode ≤ 16777217 := by
  obtain ⟨m1, m5⟩ := within_true.1 h
  have hA : mdA x 1 t mode = true := by
    have f1 : fits x = true := fits_of (by omega) (by omega)
    have f2 : fits 1 = true := by decide
    have f3 : fits t = true := fits_of (by omega) (by omega)
    simp [mdA, f1, f2, f3, m1, m5]
  have hq : (mdQ x 1 t : Int) ≤ 16777216 := by
    unfold mdQ
    have hs : size x ≤ 16777216 := by unfold size; split <;> omega
    have hs0 := size_nonneg x
    have : (size x).toNat * (size 1).toNat / (size t).toNat ≤ (size x).toNat * (size 1).toNat := Nat.div_le_self _ _
    have e1 : (size 1).toNat = 1 := by decide
    rw [e1, Nat.mul_one] at this ⊢
    omega
  have hg : 0 ≤ mdG x 1 t mode ∧ mdG x 1 t mode ≤ 16777217 := by
    unfold mdG
    split <;> omega
  have h0 : t ≠ 0 := by omega
  have hle : mdG x 1 t mode ≤ 1152921504606846976 := by omega
  have e : mdN x 1 t mode = if neg x 1 t = true then -mdG x 1 t mode else mdG x 1 t mode := by simp [mdN, hA, h0, hle]
  refine ⟨by simp [mdE, hA, h0, hle], ?_⟩
  rw [e]
  split <;> omega
theorem mul_small {n t : Int} (n1 : -16777217 ≤ n) (n2 : n ≤ 16777217) (t1 : 1 ≤ t) (t2 : t ≤ 16777216) : -281474993487872 ≤ n * t ∧ n * t ≤ 281474993487872 := by
  have a1 : n * t ≤ 16777217 * t := Int.mul_le_mul_of_nonneg_right n2 (by omega)
  have a2 : -16777217 * t ≤ n * t := Int.mul_le_mul_of_nonneg_right n1 (by omega)
  omega

section
variable {p : Prod} {x mode q : Int}
theorem pk_bad (h : checkE p ≠ 0) : priceE p x = checkE p := by unfold priceE; rw [if_pos h]
theorem pk_out (h : checkE p = 0) (h2 : within x p.low p.high = false) : priceE p x = 17 := by unfold priceE; rw [if_neg (by simp [h]), if_pos h2]
theorem pk_tick (h : checkE p = 0) (h2 : within x p.low p.high = true) (h3 : (x.tmod p.tick == 0) = false) : priceE p x = 16 := by
  unfold priceE; rw [if_neg (by simp [h]), if_neg (by simp [h2]), if_pos (by simpa using h3)]
theorem pk_ok (h : checkE p = 0) (h2 : within x p.low p.high = true) (h3 : (x.tmod p.tick == 0) = true) : priceE p x = 0 := by
  unfold priceE; rw [if_neg (by simp [h]), if_neg (by simp [h2]), if_neg (by simpa using h3)]
theorem tick_pos (h : checkE p = 0) : p.tick ≠ 0 := by have := (check_parts h).2.2.2.1; omega
theorem rd_bad (h : checkE p ≠ 0) : roundE p x mode = checkE p ∧ roundN p x mode = 0 := by
  have e : roundE p x mode = checkE p := by unfold roundE; rw [if_pos h]
  exact ⟨e, by unfold roundN; rw [e, if_neg h]⟩
theorem rd_out (h : checkE p = 0) (h2 : within x (-16777216) 16777216 = false) : roundE p x mode = 17 ∧ roundN p x mode = 0 := by
  have e : roundE p x mode = 17 := by unfold roundE; rw [if_neg (by simp [h]), if_pos h2]
  exact ⟨e, by unfold roundN; rw [e, if_neg (by decide)]⟩
theorem rd_mode (h : checkE p = 0) (h2 : within x (-16777216) 16777216 = true) (h3 : within mode 1 5 = false) : roundE p x mode = 2 ∧ roundN p x mode = 0 := by
  have e : roundE p x mode = 2 := by unfold roundE; rw [if_neg (by simp [h]), if_neg (by simp [h2]), if_pos h3]
  exact ⟨e, by unfold roundN; rw [e, if_neg (by decide)]⟩
theorem rd_ok (h : checkE p = 0) (h2 : within x (-16777216) 16777216 = true) (h3 : within mode 1 5 = true) :
    (roundE p x mode = 0 ∧ roundN p x mode = clamp (mdN x 1 p.tick mode * p.tick) p.low p.high) ∧ mdE x 1 p.tick mode = 0 ∧ -281474993487872 ≤ mdN x 1 p.tick mode * p.tick ∧ mdN x 1 p.tick mode * p.tick ≤ 281474993487872 := by
  have e : roundE p x mode = 0 := by unfold roundE; rw [if_neg (by simp [h]), if_neg (by simp [h2]), if_neg (by simp [h3])]
  have ht := (check_parts h).2.2.2.1
  have hx := within_true.1 h2
  obtain ⟨m0, m1, m2⟩ := md_small hx.1 hx.2 ht.1 ht.2 h3
  exact ⟨⟨e, by unfold roundN; rw [if_pos e]⟩, m0, mul_small m1 m2 ht.1 ht.2⟩
theorem vl_bad (h : checkE p ≠ 0) : valueE p x q = checkE p ∧ valueN p x q = 0 := by
  have e : valueE p x q = checkE p := by unfold valueE; rw [if_pos h]
  exact ⟨e, by unfold valueN; rw [e, if_neg h]⟩
theorem vl_out (h : checkE p = 0) (h2 : within x (-33554432) 33554432 = false) : valueE p x q = 17 ∧ valueN p x q = 0 := by
  have e : valueE p x q = 17 := by unfold valueE; rw [if_neg (by simp [h]), if_pos h2]
  exact ⟨e, by unfold valueN; rw [e, if_neg (by decide)]⟩
theorem vl_qty (h : checkE p = 0) (h2 : within x (-33554432) 33554432 = true) (h3 : within q (-1048576) 1048576 = false) : valueE p x q = 18 ∧ valueN p x q = 0 := by
  have e : valueE p x q = 18 := by unfold valueE; rw [if_neg (by simp [h]), if_neg (by simp [h2]), if_pos h3]
  exact ⟨e, by unfold valueN; rw [e, if_neg (by decide)]⟩
theorem vl_ok (h : checkE p = 0) (h2 : within x (-33554432) 33554432 = true) (h3 : within q (-1048576) 1048576 = true) : valueE p x q = 0 ∧ valueN p x q = x * p.mult * q := by
  have e : valueE p x q = 0 := by unfold valueE; rw [if_neg (by simp [h]), if_neg (by simp [h2]), if_neg (by simp [h3])]
  exact ⟨e, by unfold valueN; rw [if_pos e]⟩
end
end QM

/- Contracts of layer 1's small functions and of their references. -/
namespace Go.Proofs.Ytafdjiilmogcjaa
open Go.RowKit

theorem fits_any (n : Int) (w : World) :
    Calls Try.prog 70 #[.int .i64 n] w fun e w' => e = .returned (.bool (CM.fits n)) ∧ w = w' := by
  by_cases h1 : -1152921504606846976 ≤ n
  · by_cases h2 : n ≤ 1152921504606846976
    · have h : CM.fits n = true := CM.fits_true.2 ⟨h1, h2⟩
      rw [h]; clear h
      go_enter Try.func70, Try.ntmps70
      go_wp2
      go_ret
      exact ⟨rfl, rfl⟩
    · have h : CM.fits n = false := CM.fits_false.2 (by omega)
      rw [h]; clear h
      go_enter Try.func70, Try.ntmps70
      go_wp2
      go_ret
      exact ⟨rfl, rfl⟩
  · have h : CM.fits n = false := CM.fits_false.2 (by omega)
    rw [h]; clear h
    go_enter Try.func70, Try.ntmps70
    go_wp2
    go_ret
    exact ⟨rfl, rfl⟩

theorem rfits_any (n : Int) (w : World) :
    Calls Try.prog 74 #[.int .i64 n] w fun e w' => e = .returned (.bool (CM.fits n)) ∧ w = w' := by
  by_cases h1 : -1152921504606846976 ≤ n
  · by_cases h2 : n ≤ 1152921504606846976
    · have h : CM.fits n = true := CM.fits_true.2 ⟨h1, h2⟩
      rw [h]; clear h
      go_enter Try.func74, Try.ntmps74
      go_wp2
      go_ret
      exact ⟨rfl, rfl⟩
    · have h : CM.fits n = false := CM.fits_false.2 (by omega)
      rw [h]; clear h
      go_enter Try.func74, Try.ntmps74
      go_wp2
      go_ret
      exact ⟨rfl, rfl⟩
  · have h : CM.fits n = false := CM.fits_false.2 (by omega)
    rw [h]; clear h
    go_enter Try.func74, Try.ntmps74
    go_wp2
    go_ret
    exact ⟨rfl, rfl⟩

theorem fitting_any (n : Int) (w : World) :
    Calls Try.prog 71 #[.int .i64 n] w fun e w' => e = .returned (.tuple #[.int .i64 (CM.fitN n), .int .i64 (CM.fitE n)]) ∧ w = w' := by
  cases h : CM.fits n
  · have hn : CM.fitN n = 0 := by simp [CM.fitN, h]
    have he : CM.fitE n = 3 := by simp [CM.fitE, h]
    rw [hn, he]; clear hn he
    go_enter Try.func71, Try.ntmps71
    go_wp2_with (go_at_call 70; refine (fits_any _ _).mono ?_; rintro e w' ⟨rfl, rfl⟩)
    go_ret2
    exact ⟨rfl, rfl⟩
  · have hn : CM.fitN n = n := by simp [CM.fitN, h]
    have he : CM.fitE n = 0 := by simp [CM.fitE, h]
    rw [hn, he]; clear hn he
    go_enter Try.func71, Try.ntmps71
    go_wp2_with (go_at_call 70; refine (fits_any _ _).mono ?_; rintro e w' ⟨rfl, rfl⟩)
    go_ret2
    exact ⟨rfl, rfl⟩

end Go.Proofs.Ytafdjiilmogcjaa

namespace Go.Proofs.Ytafdjiilmogcjaa
open Go.RowKit

theorem ofInt_i64 (a : Nat) (ha : a < 9223372036854775808) : (BitVec.ofInt 64 (a : Int)).toNat = a := by
  rw [BitVec.ofInt_natCast, BitVec.toNat_ofNat]; exact Nat.mod_eq_of_lt (by omega)
theorem i64_and_nat (a b : Nat) (ha : a < 9223372036854775808) (hb : b < 9223372036854775808) : bits .and .i64 (a : Int) (b : Int) = ((a &&& b : Nat) : Int) := by
  have hx : a &&& b < 2 ^ 63 := Nat.and_lt_two_pow _ (by omega)
  show IntKind.i64.wrap ((BitVec.ofInt 64 (a : Int) &&& BitVec.ofInt 64 (b : Int)).toNat : Int) = _
  rw [BitVec.toNat_and, ofInt_i64 a ha, ofInt_i64 b hb, IntKind.wrap_i64]
  omega

theorem div_pow_le (a j : Nat) : a / 2 ^ j ≤ a := Nat.div_le_self _ _

theorem bit_test (a k : Nat) (ha : a ≤ 1152921504606846976) :
    (bits BinOp.and IntKind.i64 ((a : Int) / 2 ^ (60 - k)) 1 == 1) = decide (CM.bitAt a k = 1) := by
  have e : ((a : Int) / 2 ^ (60 - k)) = ((a / 2 ^ (60 - k) : Nat) : Int) := by
    rw [Int.natCast_ediv, Int.natCast_pow]; rfl
  have hl := div_pow_le a (60 - k)
  have h := i64_and_nat (a / 2 ^ (60 - k)) 1 (by omega) (by omega)
  rw [e, show (1 : Int) = ((1 : Nat) : Int) from rfl, h, Nat.and_one_is_mod]
  unfold CM.bitAt
  generalize a / 2 ^ (60 - k) % 2 = t
  rw [Bool.eq_iff_iff]; simp; omega

theorem bit_test2 (a k : Nat) :
    ((((a : Int) / 2 ^ (60 - k)).tmod 2) == 1) = decide (CM.bitAt a k = 1) := by
  have e : ((a : Int) / 2 ^ (60 - k)) = ((a / 2 ^ (60 - k) : Nat) : Int) := by
    rw [Int.natCast_ediv, Int.natCast_pow]; rfl
  rw [e, Int.tmod_eq_emod_of_nonneg (Int.natCast_nonneg _)]
  unfold CM.bitAt
  generalize a / 2 ^ (60 - k) = t
  rw [Bool.eq_iff_iff]; simp; omega

end Go.Proofs.Ytafdjiilmogcjaa
