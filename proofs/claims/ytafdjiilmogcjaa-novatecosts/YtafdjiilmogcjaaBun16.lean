/- Put together: Bun6. -/
import Derived.Test.YtafdjiilmogcjaaBun15
import Derived.Test.YtafdjiilmogcjaaBun11
import Derived.WalkMore
import Derived.Test.YtafdjiilmogcjaaBun13
import Derived.Test.YtafdjiilmogcjaaBun14
import Derived.BigQuiet
import Derived.Deep.RegionHeld3
/- Put together: NovB, NovC, TrdCells, TrdBox, NovD. -/
/- Contracts of layer 13: the legs that match. -/
namespace Go.Proofs.Ytafdjiilmogcjaa
open Go.RowKit Go.Recs
set_option linter.unusedVariables false
set_option linter.unusedSimpArgs false
theorem leg_one (x : NM.Leg) : ∀ u ∈ [Value.string x.am, .string x.an, .string x.ser.prod, .int .i64 x.ser.kind, .int .i64 x.ser.expiry, .int .i64 x.ser.strike, .int .i64 x.qty, .int .i64 x.price, .int .i64 x.trade], u.oneCell' = true := legV_one [x] (legV x) (by simp)

set_option maxHeartbeats 4000000 in
theorem nmatch_mine (A : Option Addr) (l : List NM.Leg) (n cap : Nat) (hn : n = l.length) (am an : ByteArray) (s : EM.Ser) (g j : Nat) (w : World) (hI : Legs w A l) (hz : l.length * 96 ≤ 140737488355328) (hg : CB w g 26 (kC am an)) (hj : SBox w j s) :
    Calls Try.prog 49 #[.slice A n cap, .func (.func 67) #[] #[.pointer (some ⟨g, 0, none⟩), .pointer (some ⟨j, 0, none⟩)]] w fun e w' => ∃ v, e = .returned v ∧ OwnR w' w.heap.size 47 9 v ((l.filter (NM.mine am an s)).map legV) ∧ Below w.heap.size w w' := by
  subst hn
  have hlen := hI.len
  have KN := Lib.hid (fun k (hk : k < l.length) => NM.filter_succ hk (NM.mine am an s))
  have KE : Hid ((l.take l.length).filter (NM.mine am an s) = l.filter (NM.mine am an s)) := Lib.hid (by rw [List.take_length])
  have KL : Hid (∀ k, k ≤ l.length → ((l.take k).filter (NM.mine am an s)).length ≤ k) := Lib.hid (fun k hk => by
    have := List.length_filter_le (NM.mine am an s) (l.take k)
    rw [List.length_take] at this
    omega)
  have K0 : Hid ((l.take 0).filter (NM.mine am an s) = []) := Lib.hid (by simp)
  have HC := Lib.hid (fun (x : NM.Leg) ww h1 h2 => nmine_any x am an s g j ww h1 h2)
  generalize l.filter (NM.mine am an s) = fl at *
  have HI := Lib.hid hI
  have HG := Lib.hid hg; have HJ := Lib.hid hj
  have hgl := hg.lt; have hjl := hj.lt
  clear hg hj
  clear hI
  go_enter Try.func49, Try.ntmps49
  go_wp2_with fail
  go_loopw [4, 6, 9] (fun v _ i wr => ∃ k : Nat, k ≤ l.length ∧ i = .int .i64 (k : Int) ∧ Hid (OwnR wr w.heap.size 47 9 v (((l.take k).filter (NM.mine am an s)).map legV)) ∧ Hid (Below w.heap.size w wr)) (fun _ _ i _ => l.length - (intOf i).toNat)
  case atStart => exact ⟨0, by omega, rfl, Lib.hid (by rw [K0.out]; exact OwnR.nil _ _ _ _), Lib.hid (Below.refl _ _)⟩
  case round =>
    obtain ⟨k, hk, rfl, HO, HB⟩ := hrel
    by_cases hlt : k < l.length
    · obtain ⟨b, off, x, rfl, hb, HV, q, d0, d1, d2, d3, d4, d5, d6, d7, d8⟩ := legs_get (HI.out.below HB.out) hlt
      have HN := Lib.hid (KN.out k hlt)
      rw [← NM.lAt_get hlt, HV.out] at HN
      have HBx := Lib.hid (HB.out.alloc HB.out.size (.cells (legC x) 47))
      have HOx := Lib.hid (HO.out.alloc (.cells (legC x) 47))
      have HX := Lib.hid (CB.new wr 47 (legC x))
      have HG0 := Lib.hid (HG.out.below HBx.out hgl); have HJ0 := Lib.hid (HJ.out.below HBx.out hjl)
      have hll := KL.out k hk
      clear q HV
      cases hp : (NM.mine am an s) x
      · have C1 := Lib.hid (fun ww h1 h2 => HC.out x ww h1 h2)
        simp only [hp] at C1
        rw [hp] at HN
        clear hp
        go_wp2_with fail
        generalize wr.alloc (.cells #[.string x.am, .string x.an, .string x.ser.prod, .int .i64 x.ser.kind, .int .i64 x.ser.expiry, .int .i64 x.ser.strike, .int .i64 x.qty, .int .i64 x.price, .int .i64 x.trade] 47) = w0 at *
        refine (C1.out _ HG0.out HJ0.out).mono ?_
        rintro e w1 ⟨rfl, b1⟩
        have HB1 := Lib.hid (HBx.out.trans (b1.mono HBx.out.size))
        have HO1 := Lib.hid (HOx.out.below b1)
        have HN2 : Hid ((l.take (k + 1)).filter (NM.mine am an s) = (l.take k).filter (NM.mine am an s)) := Lib.hid (by rw [HN.out]; simp)
        have HO2 := HO1
        rw [← HN2.out] at HO2
        clear b1 HN HO HO1 HOx
        go_wp2_with fail
        go_roundw
        case rel => exact ⟨k + 1, by omega, by go_num, HO2, HB1⟩
        case measure => simp [intOf]; omega
      · have C1 := Lib.hid (fun ww h1 h2 => HC.out x ww h1 h2)
        simp only [hp] at C1
        rw [hp] at HN
        clear hp
        have hxl := HX.out.lt
        go_wp2_with fail
        generalize wr.alloc (.cells #[.string x.am, .string x.an, .string x.ser.prod, .int .i64 x.ser.kind, .int .i64 x.ser.expiry, .int .i64 x.ser.strike, .int .i64 x.qty, .int .i64 x.price, .int .i64 x.trade] 47) = w0 at *
        refine (C1.out _ HG0.out HJ0.out).mono ?_
        rintro e w1 ⟨rfl, b1⟩
        have HB1 := Lib.hid (HBx.out.trans (b1.mono HBx.out.size))
        have HO1 := Lib.hid (HOx.out.below b1)
        have HX1 := Lib.hid (HX.out.below b1 hxl)
        have x0 : w1.cell? ⟨wr.heap.size, 0, none⟩ = some (.string x.am) := HX1.out.cell 0
        have x1 : w1.cell? ⟨wr.heap.size, 1, none⟩ = some (.string x.an) := HX1.out.cell 1
        have x2 : w1.cell? ⟨wr.heap.size, 2, none⟩ = some (.string x.ser.prod) := HX1.out.cell 2
        have x3 : w1.cell? ⟨wr.heap.size, 3, none⟩ = some (.int .i64 x.ser.kind) := HX1.out.cell 3
        have x4 : w1.cell? ⟨wr.heap.size, 4, none⟩ = some (.int .i64 x.ser.expiry) := HX1.out.cell 4
        have x5 : w1.cell? ⟨wr.heap.size, 5, none⟩ = some (.int .i64 x.ser.strike) := HX1.out.cell 5
        have x6 : w1.cell? ⟨wr.heap.size, 6, none⟩ = some (.int .i64 x.qty) := HX1.out.cell 6
        have x7 : w1.cell? ⟨wr.heap.size, 7, none⟩ = some (.int .i64 x.price) := HX1.out.cell 7
        have x8 : w1.cell? ⟨wr.heap.size, 8, none⟩ = some (.int .i64 x.trade) := HX1.out.cell 8
        have HN2 : Hid (((l.take (k + 1)).filter (NM.mine am an s)).map legV = ((l.take k).filter (NM.mine am an s)).map legV ++ [legV x]) := Lib.hid (by rw [HN.out]; simp)
        clear b1 HN HO HOx
        go_wp2_with (at_builtin; refine wpList_pushR _ [.string x.am, .string x.an, .string x.ser.prod, .int .i64 x.ser.kind, .int .i64 x.ser.expiry, .int .i64 x.ser.strike, .int .i64 x.qty, .int .i64 x.price, .int .i64 x.trade] (leg_one x) w.heap.size (((l.take k).filter (NM.mine am an s)).map legV) _ _ 51 47 9 96 _ Try.underlying51 info_leg rfl (by decide) rfl rfl rfl _ rfl rfl HO1.out ?c1 ?c2 ?c3 ?_)
        case c1 => rw [List.length_map]; omega
        case c2 => rw [List.length_map]; simp only [maxLen]; omega
        case c3 => exact HB1.out.size
        intro v2 w2 o2 b2 _ _
        have HO2 : Hid (OwnR w2 w.heap.size 47 9 v2 (((l.take (k + 1)).filter (NM.mine am an s)).map legV)) := Lib.hid (by rw [HN2.out]; exact o2)
        have HB2 := Lib.hid (HB1.out.trans b2)
        clear o2 b2 HO1 x0 x1 x2 x3 x4 x5 x6 x7 x8
        go_wp2_with fail
        go_roundw
        case rel => exact ⟨k + 1, by omega, by go_num, HO2, HB2⟩
        case measure => simp [intOf]; omega
    · obtain rfl : k = l.length := by omega
      rw [KE.out] at HO
      go_wp2_with fail
      go_ret
      exact ⟨_, rfl, HO.out, HB.out⟩

set_option maxHeartbeats 4000000 in
theorem nmatch_ofs (A : Option Addr) (l : List NM.Leg) (n cap : Nat) (hn : n = l.length) (s : EM.Ser) (j : Nat) (w : World) (hI : Legs w A l) (hz : l.length * 96 ≤ 140737488355328) (hj : SBox w j s) :
    Calls Try.prog 49 #[.slice A n cap, .func (.func 50) #[] #[.pointer (some ⟨j, 0, none⟩)]] w fun e w' => ∃ v, e = .returned v ∧ OwnR w' w.heap.size 47 9 v ((l.filter (NM.ofS s)).map legV) ∧ Below w.heap.size w w' := by
  subst hn
  have hlen := hI.len
  have KN := Lib.hid (fun k (hk : k < l.length) => NM.filter_succ hk (NM.ofS s))
  have KE : Hid ((l.take l.length).filter (NM.ofS s) = l.filter (NM.ofS s)) := Lib.hid (by rw [List.take_length])
  have KL : Hid (∀ k, k ≤ l.length → ((l.take k).filter (NM.ofS s)).length ≤ k) := Lib.hid (fun k hk => by
    have := List.length_filter_le (NM.ofS s) (l.take k)
    rw [List.length_take] at this
    omega)
  have K0 : Hid ((l.take 0).filter (NM.ofS s) = []) := Lib.hid (by simp)
  have HC := Lib.hid (fun (x : NM.Leg) ww h1 => nofs_any x s j ww h1)
  generalize l.filter (NM.ofS s) = fl at *
  have HI := Lib.hid hI
  have HJ := Lib.hid hj
  have hjl := hj.lt
  clear hj
  clear hI
  go_enter Try.func49, Try.ntmps49
  go_wp2_with fail
  go_loopw [4, 6, 9] (fun v _ i wr => ∃ k : Nat, k ≤ l.length ∧ i = .int .i64 (k : Int) ∧ Hid (OwnR wr w.heap.size 47 9 v (((l.take k).filter (NM.ofS s)).map legV)) ∧ Hid (Below w.heap.size w wr)) (fun _ _ i _ => l.length - (intOf i).toNat)
  case atStart => exact ⟨0, by omega, rfl, Lib.hid (by rw [K0.out]; exact OwnR.nil _ _ _ _), Lib.hid (Below.refl _ _)⟩
  case round =>
    obtain ⟨k, hk, rfl, HO, HB⟩ := hrel
    by_cases hlt : k < l.length
    · obtain ⟨b, off, x, rfl, hb, HV, q, d0, d1, d2, d3, d4, d5, d6, d7, d8⟩ := legs_get (HI.out.below HB.out) hlt
      have HN := Lib.hid (KN.out k hlt)
      rw [← NM.lAt_get hlt, HV.out] at HN
      have HBx := Lib.hid (HB.out.alloc HB.out.size (.cells (legC x) 47))
      have HOx := Lib.hid (HO.out.alloc (.cells (legC x) 47))
      have HX := Lib.hid (CB.new wr 47 (legC x))
      have HJ0 := Lib.hid (HJ.out.below HBx.out hjl)
      have hll := KL.out k hk
      clear q HV
      cases hp : (NM.ofS s) x
      · have C1 := Lib.hid (fun ww h1 => HC.out x ww h1)
        simp only [hp] at C1
        rw [hp] at HN
        clear hp
        go_wp2_with fail
        generalize wr.alloc (.cells #[.string x.am, .string x.an, .string x.ser.prod, .int .i64 x.ser.kind, .int .i64 x.ser.expiry, .int .i64 x.ser.strike, .int .i64 x.qty, .int .i64 x.price, .int .i64 x.trade] 47) = w0 at *
        refine (C1.out _ HJ0.out).mono ?_
        rintro e w1 ⟨rfl, b1⟩
        have HB1 := Lib.hid (HBx.out.trans (b1.mono HBx.out.size))
        have HO1 := Lib.hid (HOx.out.below b1)
        have HN2 : Hid ((l.take (k + 1)).filter (NM.ofS s) = (l.take k).filter (NM.ofS s)) := Lib.hid (by rw [HN.out]; simp)
        have HO2 := HO1
        rw [← HN2.out] at HO2
        clear b1 HN HO HO1 HOx
        go_wp2_with fail
        go_roundw
        case rel => exact ⟨k + 1, by omega, by go_num, HO2, HB1⟩
        case measure => simp [intOf]; omega
      · have C1 := Lib.hid (fun ww h1 => HC.out x ww h1)
        simp only [hp] at C1
        rw [hp] at HN
        clear hp
        have hxl := HX.out.lt
        go_wp2_with fail
        generalize wr.alloc (.cells #[.string x.am, .string x.an, .string x.ser.prod, .int .i64 x.ser.kind, .int .i64 x.ser.expiry, .int .i64 x.ser.strike, .int .i64 x.qty, .int .i64 x.price, .int .i64 x.trade] 47) = w0 at *
        refine (C1.out _ HJ0.out).mono ?_
        rintro e w1 ⟨rfl, b1⟩
        have HB1 := Lib.hid (HBx.out.trans (b1.mono HBx.out.size))
        have HO1 := Lib.hid (HOx.out.below b1)
        have HX1 := Lib.hid (HX.out.below b1 hxl)
        have x0 : w1.cell? ⟨wr.heap.size, 0, none⟩ = some (.string x.am) := HX1.out.cell 0
        have x1 : w1.cell? ⟨wr.heap.size, 1, none⟩ = some (.string x.an) := HX1.out.cell 1
        have x2 : w1.cell? ⟨wr.heap.size, 2, none⟩ = some (.string x.ser.prod) := HX1.out.cell 2
        have x3 : w1.cell? ⟨wr.heap.size, 3, none⟩ = some (.int .i64 x.ser.kind) := HX1.out.cell 3
        have x4 : w1.cell? ⟨wr.heap.size, 4, none⟩ = some (.int .i64 x.ser.expiry) := HX1.out.cell 4
        have x5 : w1.cell? ⟨wr.heap.size, 5, none⟩ = some (.int .i64 x.ser.strike) := HX1.out.cell 5
        have x6 : w1.cell? ⟨wr.heap.size, 6, none⟩ = some (.int .i64 x.qty) := HX1.out.cell 6
        have x7 : w1.cell? ⟨wr.heap.size, 7, none⟩ = some (.int .i64 x.price) := HX1.out.cell 7
        have x8 : w1.cell? ⟨wr.heap.size, 8, none⟩ = some (.int .i64 x.trade) := HX1.out.cell 8
        have HN2 : Hid (((l.take (k + 1)).filter (NM.ofS s)).map legV = ((l.take k).filter (NM.ofS s)).map legV ++ [legV x]) := Lib.hid (by rw [HN.out]; simp)
        clear b1 HN HO HOx
        go_wp2_with (at_builtin; refine wpList_pushR _ [.string x.am, .string x.an, .string x.ser.prod, .int .i64 x.ser.kind, .int .i64 x.ser.expiry, .int .i64 x.ser.strike, .int .i64 x.qty, .int .i64 x.price, .int .i64 x.trade] (leg_one x) w.heap.size (((l.take k).filter (NM.ofS s)).map legV) _ _ 51 47 9 96 _ Try.underlying51 info_leg rfl (by decide) rfl rfl rfl _ rfl rfl HO1.out ?c1 ?c2 ?c3 ?_)
        case c1 => rw [List.length_map]; omega
        case c2 => rw [List.length_map]; simp only [maxLen]; omega
        case c3 => exact HB1.out.size
        intro v2 w2 o2 b2 _ _
        have HO2 : Hid (OwnR w2 w.heap.size 47 9 v2 (((l.take (k + 1)).filter (NM.ofS s)).map legV)) := Lib.hid (by rw [HN2.out]; exact o2)
        have HB2 := Lib.hid (HB1.out.trans b2)
        clear o2 b2 HO1 x0 x1 x2 x3 x4 x5 x6 x7 x8
        go_wp2_with fail
        go_roundw
        case rel => exact ⟨k + 1, by omega, by go_num, HO2, HB2⟩
        case measure => simp [intOf]; omega
    · obtain rfl : k = l.length := by omega
      rw [KE.out] at HO
      go_wp2_with fail
      go_ret
      exact ⟨_, rfl, HO.out, HB.out⟩

theorem filt_legs {w : World} {B : Nat} {v : Value} {l : List NM.Leg} {p : NM.Leg → Bool} (h : OwnR w B 47 9 v ((l.filter p).map legV)) (hq : ∀ x ∈ l, legQ x) : ∃ A cap, v = .slice A (l.filter p).length cap ∧ Legs w A (l.filter p) ∧ (l.filter p).length ≤ cap := by
  obtain ⟨A, cap, rfl, hr, hc⟩ := h.recs
  rw [List.length_map] at hc ⊢
  exact ⟨A, cap, rfl, ⟨hr, fun x hx => hq x (List.mem_filter.1 hx).1⟩, hc⟩
theorem filt_small {l : List NM.Leg} (h : NM.checkE l = 0) (p : NM.Leg → Bool) : (∀ x ∈ l.filter p, -1048576 ≤ x.qty ∧ x.qty ≤ 1048576) ∧ (l.filter p).length ≤ 2048 := by
  obtain ⟨h1, h2⟩ := NM.check_inv h
  exact ⟨fun x hx => h2 x (List.mem_filter.1 hx).1, Nat.le_trans (List.length_filter_le _ _) h1⟩

set_option maxHeartbeats 2000000 in
theorem nheld_any (A : Option Addr) (l : List NM.Leg) (n cap : Nat) (hn : n = l.length) (am an : ByteArray) (s : EM.Ser) (w : World) (hI : Legs w A l) (hz : l.length * 96 ≤ 140737488355328) :
    Calls Try.prog 47 #[.slice A n cap, kA am an, serA s] w fun e w' => ∃ v, e = .returned v ∧ OwnR w' w.heap.size 47 9 v ((l.filter (NM.mine am an s)).map legV) ∧ Below w.heap.size w w' := by
  have hmf : ∀ (fn : Fn) (first cap : Array Value) (w : World), (Instr.makeFunc fn first cap).run Try.prog w = .ok (.func fn first cap) w := fun _ _ _ _ => rfl
  have HB0 := Lib.hid (((Below.refl w.heap.size w).alloc (Nat.le_refl _) (.cells (kC am an) 26)).alloc (by simp) (.cells #[.string s.prod, .int .i64 s.kind, .int .i64 s.expiry, .int .i64 s.strike] 43))
  have HG0 := Lib.hid ((CB.new w 26 (kC am an)).alloc (.cells #[.string s.prod, .int .i64 s.kind, .int .i64 s.expiry, .int .i64 s.strike] 43))
  have HJ0 := Lib.hid (SBox.new (w.alloc (.cells (kC am an) 26)) s)
  have e1 : (w.alloc (.cells (kC am an) 26)).heap.size = w.heap.size + 1 := by simp
  have e2 : ((w.alloc (.cells (kC am an) 26)).alloc (.cells #[.string s.prod, .int .i64 s.kind, .int .i64 s.expiry, .int .i64 s.strike] 43)).heap.size = w.heap.size + 2 := by simp
  rw [e1] at HJ0
  subst hn
  have C1 := Lib.hid (nmatch_mine A l l.length cap rfl am an s w.heap.size (w.heap.size + 1) _ (hI.below HB0.out) hz HG0.out HJ0.out)
  rw [e2] at C1
  clear hI hz HG0 HJ0 e1 e2
  go_enter Try.func47, Try.ntmps47
  go_wp2_with fail
  refine C1.out.mono ?_
  rintro e w1 ⟨v, rfl, o1, b1⟩
  have HB1 := Lib.hid (HB0.out.trans (b1.mono (by omega)))
  have HO1 := Lib.hid (o1.lower (B' := w.heap.size) (by omega))
  clear o1 b1
  go_wp2_with fail
  go_ret
  exact ⟨_, rfl, HO1.out, HB1.out⟩

set_option maxHeartbeats 2000000 in
theorem nnet_any (A : Option Addr) (l : List NM.Leg) (n cap : Nat) (hn : n = l.length) (am an : ByteArray) (s : EM.Ser) (w : World) (hI : Legs w A l) :
    Calls Try.prog 24 #[.slice A n cap, kA am an, serA s] w fun e w' => e = .returned (.tuple #[.int .i64 (NM.netN l am an s), .int .i64 (NM.checkE l)]) ∧ Below w.heap.size w w' := by
  have HB0 := Lib.hid (((Below.refl w.heap.size w).alloc (Nat.le_refl _) (.cells (kC am an) 26)).alloc (by simp) (.cells #[.string s.prod, .int .i64 s.kind, .int .i64 s.expiry, .int .i64 s.strike] 43))
  have HG0 := Lib.hid ((CB.new w 26 (kC am an)).alloc (.cells #[.string s.prod, .int .i64 s.kind, .int .i64 s.expiry, .int .i64 s.strike] 43))
  have HJ0 := Lib.hid (SBox.new (w.alloc (.cells (kC am an) 26)) s)
  have e1 : (w.alloc (.cells (kC am an) 26)).heap.size = w.heap.size + 1 := by simp
  have e2 : ((w.alloc (.cells (kC am an) 26)).alloc (.cells #[.string s.prod, .int .i64 s.kind, .int .i64 s.expiry, .int .i64 s.strike] 43)).heap.size = w.heap.size + 2 := by simp
  rw [e1] at HJ0
  have HG1 : Hid (w.heap.size < w.heap.size + 2 ∧ w.heap.size + 1 < w.heap.size + 2) := Lib.hid ⟨by omega, by omega⟩
  have C1 := Lib.hid (ncheck_any A l n cap hn _ (hI.below HB0.out))
  have HI := Lib.hid (hI.below HB0.out)
  have HS := Lib.hid e2
  rw [e2] at C1
  have HQ := Lib.hid hI.2
  have hxn := hn
  clear hI e1 e2
  by_cases hc : NM.checkE l = 0
  · have HF := Lib.hid (filt_small hc (NM.mine am an s))
    have HZ : Hid (l.length * 96 ≤ 140737488355328) := Lib.hid (by have := (NM.check_inv hc).1; omega)
    rw [NM.net_ok hc]
    rw [hc] at C1 ⊢
    have C2 := Lib.hid (fun ww h => nheld_any A l n cap hn am an s ww h HZ.out)
    have C3 := Lib.hid (fun A' n' cap' e ww h => ntotal_any A' (l.filter (NM.mine am an s)) n' cap' e ww h HF.out.1 HF.out.2)
    clear hc hn hxn
    go_enter Try.func24, Try.ntmps24
    go_wp2_with fail
    refine C1.out.mono ?_
    rintro e w1 ⟨rfl, b1⟩
    rw [← HS.out] at b1
    have HB1 := Lib.hid (HB0.out.trans (b1.mono HB0.out.size))
    have HI1 := Lib.hid (HI.out.below b1)
    have HG2 := Lib.hid (HG0.out.below b1 (by rw [HS.out]; omega))
    have HJ2 := Lib.hid (HJ0.out.below b1 (by rw [HS.out]; omega))
    have g0 : w1.cell? ⟨w.heap.size, 0, none⟩ = some (.string am) := HG2.out.cell 0
    have g1 : w1.cell? ⟨w.heap.size, 1, none⟩ = some (.string an) := HG2.out.cell 1
    obtain ⟨s0, s1, s2, s3⟩ := HJ2.out.cells
    clear b1 HG0 HJ0 HG2 HJ2
    go_wp2_with fail
    refine (C2.out _ HI1.out).mono ?_
    rintro e w2 ⟨v, rfl, o2, b2⟩
    obtain ⟨A2, c2, rfl, hL, hc2⟩ := filt_legs o2 HQ.out
    have HB2 := Lib.hid (HB1.out.trans (b2.mono HB1.out.size))
    have HL := Lib.hid hL
    clear o2 b2 hL g0 g1 s0 s1 s2 s3
    go_wp2_with fail
    refine (C3.out _ _ _ rfl _ HL.out).mono ?_
    rintro e w3 ⟨rfl, b3⟩
    have HB3 := Lib.hid (HB2.out.trans (b3.mono HB2.out.size))
    clear b3
    go_wp2_with fail
    go_ret2
    exact ⟨rfl, HB3.out⟩
  · rw [NM.net_no hc]
    have hne : (NM.checkE l != 0) = true := by simpa using hc
    generalize NM.checkE l = r at *
    clear hn hxn
    go_enter Try.func24, Try.ntmps24
    go_wp2_with fail
    refine C1.out.mono ?_
    rintro e w1 ⟨rfl, b1⟩
    rw [← HS.out] at b1
    have HB1 := Lib.hid (HB0.out.trans (b1.mono HB0.out.size))
    clear b1
    go_wp2_with fail
    go_ret2
    exact ⟨rfl, HB1.out⟩

set_option maxHeartbeats 2000000 in
theorem nhouse_any (A : Option Addr) (l : List NM.Leg) (n cap : Nat) (hn : n = l.length) (s : EM.Ser) (w : World) (hI : Legs w A l) :
    Calls Try.prog 26 #[.slice A n cap, serA s] w fun e w' => e = .returned (.tuple #[.int .i64 (NM.houseN l s), .int .i64 (NM.checkE l)]) ∧ Below w.heap.size w w' := by
  have hmf : ∀ (fn : Fn) (first cap : Array Value) (w : World), (Instr.makeFunc fn first cap).run Try.prog w = .ok (.func fn first cap) w := fun _ _ _ _ => rfl
  have HB0 := Lib.hid ((Below.refl w.heap.size w).alloc (Nat.le_refl _) (.cells #[.string s.prod, .int .i64 s.kind, .int .i64 s.expiry, .int .i64 s.strike] 43))
  have HJ0 := Lib.hid (SBox.new w s)
  have e2 : (w.alloc (.cells #[.string s.prod, .int .i64 s.kind, .int .i64 s.expiry, .int .i64 s.strike] 43)).heap.size = w.heap.size + 1 := by simp
  have C1 := Lib.hid (ncheck_any A l n cap hn _ (hI.below HB0.out))
  have HI := Lib.hid (hI.below HB0.out)
  have HS := Lib.hid e2
  rw [e2] at C1
  have HQ := Lib.hid hI.2
  clear hI e2
  by_cases hc : NM.checkE l = 0
  · have HF := Lib.hid (filt_small hc (NM.ofS s))
    have HZ : Hid (l.length * 96 ≤ 140737488355328) := Lib.hid (by have := (NM.check_inv hc).1; omega)
    rw [NM.house_ok hc]
    have hbd := NM.filter_bound hc (NM.ofS s)
    rw [hc] at C1 ⊢
    have C2 := Lib.hid (fun ww h hj => nmatch_ofs A l n cap hn s w.heap.size ww h HZ.out hj)
    have C3 := Lib.hid (fun A' n' cap' e ww h => ntotal_any A' (l.filter (NM.ofS s)) n' cap' e ww h HF.out.1 HF.out.2)
    generalize NM.qsum (l.filter (NM.ofS s)) = y at *
    have hb1 := hbd.1; have hb2 := hbd.2
    clear hc hn hbd
    go_enter Try.func26, Try.ntmps26
    go_wp2_with fail
    refine C1.out.mono ?_
    rintro e w1 ⟨rfl, b1⟩
    rw [← HS.out] at b1
    have HB1 := Lib.hid (HB0.out.trans (b1.mono HB0.out.size))
    have HI1 := Lib.hid (HI.out.below b1)
    have HJ2 := Lib.hid (HJ0.out.below b1 (by rw [HS.out]; omega))
    clear b1 HJ0
    go_wp2_with fail
    refine (C2.out _ HI1.out HJ2.out).mono ?_
    rintro e w2 ⟨v, rfl, o2, b2⟩
    obtain ⟨A2, c2, rfl, hL, hc2⟩ := filt_legs o2 HQ.out
    have HB2 := Lib.hid (HB1.out.trans (b2.mono HB1.out.size))
    have HL := Lib.hid hL
    clear o2 b2 hL
    go_wp2_with fail
    refine (C3.out _ _ _ rfl _ HL.out).mono ?_
    rintro e w3 ⟨rfl, b3⟩
    have HB3 := Lib.hid (HB2.out.trans (b3.mono HB2.out.size))
    clear b3
    go_wp2_with fail
    go_ret2
    exact ⟨rfl, HB3.out⟩
  · rw [NM.house_no hc]
    have hne : (NM.checkE l != 0) = true := by simpa using hc
    generalize NM.checkE l = r at *
    clear hn
    go_enter Try.func26, Try.ntmps26
    go_wp2_with fail
    refine C1.out.mono ?_
    rintro e w1 ⟨rfl, b1⟩
    rw [← HS.out] at b1
    have HB1 := Lib.hid (HB0.out.trans (b1.mono HB0.out.size))
    clear b1
    go_wp2_with fail
    go_ret2
    exact ⟨rfl, HB1.out⟩
end Go.Proofs.Ytafdjiilmogcjaa

/- Contracts of layer 13: the reference's Net, House, Same, Flat. -/
namespace Go.Proofs.Ytafdjiilmogcjaa
open Go.RowKit Go.Recs
set_option linter.unusedVariables false
set_option linter.unusedSimpArgs false
set_option maxHeartbeats 4000000 in
theorem rnet13_any (A : Option Addr) (l : List NM.Leg) (n cap : Nat) (hn : n = l.length) (am an : ByteArray) (s : EM.Ser) (w : World) (hI : Legs w A l) :
    Calls Try.prog 25 #[.slice A n cap, kA am an, serA s] w fun e w' => e = .returned (.tuple #[.int .i64 (NM.netN l am an s), .int .i64 (NM.checkE l)]) ∧ Below w.heap.size w w' := by
  subst hn
  have hlen := hI.len
  have HB0 := Lib.hid (((Below.refl w.heap.size w).alloc (Nat.le_refl _) (.cells (kC am an) 26)).alloc (by simp) (.cells #[.string s.prod, .int .i64 s.kind, .int .i64 s.expiry, .int .i64 s.strike] 43))
  have HG0 := Lib.hid ((CB.new w 26 (kC am an)).alloc (.cells #[.string s.prod, .int .i64 s.kind, .int .i64 s.expiry, .int .i64 s.strike] 43))
  have HJ0 := Lib.hid (SBox.new (w.alloc (.cells (kC am an) 26)) s)
  have e1 : (w.alloc (.cells (kC am an) 26)).heap.size = w.heap.size + 1 := by simp
  rw [e1] at HJ0
  have C1 := Lib.hid (rcheck13_any A l l.length cap rfl _ (hI.below HB0.out))
  have HI := Lib.hid (hI.below HB0.out)
  clear hI e1
  by_cases hc : NM.checkE l = 0
  · have KB := Lib.hid (fun k => NM.fsum_bound (p := NM.mine am an s) hc k)
    have K0 := Lib.hid (NM.fsum_zero (NM.mine am an s) l)
    have KH := Lib.hid (fun k => @NM.fsum_hit (NM.mine am an s) l k); have KM := Lib.hid (fun k => @NM.fsum_miss (NM.mine am an s) l k)
    have KE : Hid (NM.fsum (NM.mine am an s) l l.length = NM.netN l am an s) := Lib.hid (by rw [NM.fsum_end, NM.net_ok hc])
    have KQ := Lib.hid (fun k (hk : k < l.length) => NM.qty_bound hc hk)
    generalize NM.netN l am an s = r at *
    rw [hc] at C1 ⊢
    have ga := acc_guard; have gs := ser_guard
    clear hc
    go_enter Try.func25, Try.ntmps25
    go_wp2_with fail
    refine C1.out.mono ?_
    rintro e w1 ⟨rfl, rfl⟩
    have g0 : ((w.alloc (.cells (kC am an) 26)).alloc (.cells #[.string s.prod, .int .i64 s.kind, .int .i64 s.expiry, .int .i64 s.strike] 43)).cell? ⟨w.heap.size, 0, none⟩ = some (.string am) := HG0.out.cell 0
    have g1 : ((w.alloc (.cells (kC am an) 26)).alloc (.cells #[.string s.prod, .int .i64 s.kind, .int .i64 s.expiry, .int .i64 s.strike] 43)).cell? ⟨w.heap.size, 1, none⟩ = some (.string an) := HG0.out.cell 1
    obtain ⟨s0, s1, s2, s3⟩ := HJ0.out.cells
    generalize (w.alloc (.cells (kC am an) 26)).alloc (.cells #[.string s.prod, .int .i64 s.kind, .int .i64 s.expiry, .int .i64 s.strike] 43) = w0 at *
    go_wp2_with fail
    go_loopw [9, 10] (fun v i wr => ∃ (k : Nat) (x : Int), k ≤ l.length ∧ i = .int .i64 (k : Int) ∧ v = .int .i64 x ∧ -2147483648 ≤ x ∧ x ≤ 2147483648 ∧ Hid (x = NM.fsum (NM.mine am an s) l k) ∧ ∃ nd, wr = w0.drewN nd) (fun _ i _ => l.length - (intOf i).toNat)
    case atStart => exact ⟨0, 0, by omega, rfl, rfl, by omega, by omega, Lib.hid K0.out.symm, 0, rfl⟩
    case round =>
      obtain ⟨k, y, hk, rfl, rfl, y1, y2, HE, nd, rfl⟩ := hrel
      by_cases hlt : k < l.length
      · obtain ⟨b, off, x, rfl, hb, HV, q, d0, d1, d2, d3, d4, d5, d6, d7, d8⟩ := legs_get HI.out hlt
        have E1 : ∀ ww, (Op.equalIn 10000 26 (.agg #[.string x.am, .string x.an]) (.agg #[.string am, .string an])).run Try.prog ww = .ok (NM.aeq x.am x.an am an) ww := fun ww => acc_in _ _ _ _ ww
        have E2 : ∀ ww, (Op.equalIn 10000 43 (serA x.ser) (serA s)).run Try.prog ww = .ok (NM.seqB x.ser s) ww := fun ww => serB_in x.ser s ww
        have hqb := KQ.out k hlt
        rw [HV.out] at hqb
        have hq1 := hqb.1; have hq2 := hqb.2
        have hway : (NM.aeq x.am x.an am an = false ∧ NM.mine am an s x = false) ∨ (NM.aeq x.am x.an am an = true ∧ NM.seqB x.ser s = false ∧ NM.mine am an s x = false) ∨ (NM.aeq x.am x.an am an = true ∧ NM.seqB x.ser s = true ∧ NM.mine am an s x = true) := by
          unfold NM.mine
          cases NM.aeq x.am x.an am an <;> cases NM.seqB x.ser s <;> simp
        have HW : Hid ((NM.mine am an s x = false → y = NM.fsum (NM.mine am an s) l (k + 1)) ∧ (NM.mine am an s x = true → y + x.qty = NM.fsum (NM.mine am an s) l (k + 1))) := Lib.hid ⟨fun h => by rw [KM.out k hlt (by rw [HV.out]; exact h), ← HE.out], fun h => by rw [KH.out k hlt (by rw [HV.out]; exact h), HV.out, ← HE.out]⟩
        have hbd := Lib.hid (KB.out (k + 1))
        generalize NM.mine am an s x = mi at *
        generalize NM.aeq x.am x.an am an = ba at *
        generalize NM.seqB x.ser s = bs at *
        clear q HV hqb
        rcases hway with ⟨rfl, rfl⟩ | ⟨rfl, rfl, rfl⟩ | ⟨rfl, rfl, rfl⟩
        · have HX := Lib.hid (HW.out.1 rfl)
          clear hbd HW
          go_wp2_with fail
          go_quiet (fail)
          go_wp2_with fail
          go_roundw
          case rel => exact ⟨k + 1, y, by omega, by go_num, rfl, y1, y2, HX, by first | exact ⟨nd, rfl⟩ | exact ⟨_, rfl⟩ | exact ⟨nd + 1, rfl⟩⟩
          case measure => simp [intOf]; omega
        · have HX := Lib.hid (HW.out.1 rfl)
          clear hbd HW
          go_wp2_with fail
          go_quiet (fail)
          go_wp2_with fail
          go_roundw
          case rel => exact ⟨k + 1, y, by omega, by go_num, rfl, y1, y2, HX, by first | exact ⟨nd, rfl⟩ | exact ⟨_, rfl⟩ | exact ⟨nd + 1, rfl⟩⟩
          case measure => simp [intOf]; omega
        · have HX := Lib.hid (HW.out.2 rfl)
          have hb2 : -2147483648 ≤ y + x.qty ∧ y + x.qty ≤ 2147483648 := by rw [HX.out]; exact hbd.out
          have hb3 := hb2.1; have hb4 := hb2.2
          clear hbd HW hb2
          go_wp2_with fail
          go_quiet (fail)
          go_wp2_with fail
          go_roundw
          case rel => exact ⟨k + 1, y + x.qty, by omega, by go_num, by go_num, hb3, hb4, HX, by first | exact ⟨nd, rfl⟩ | exact ⟨_, rfl⟩ | exact ⟨nd + 1, rfl⟩⟩
          case measure => simp [intOf]; omega
      · obtain rfl : k = l.length := by omega
        have HR := Lib.hid (HE.out.trans KE.out)
        go_wp2_with fail
        go_ret2
        exact ⟨by rw [HR.out] <;> rfl, below_drewN HB0.out _⟩
  · rw [NM.net_no hc]
    have hne : (NM.checkE l != 0) = true := by simpa using hc
    generalize NM.checkE l = r at *
    go_enter Try.func25, Try.ntmps25
    go_wp2_with fail
    refine C1.out.mono ?_
    rintro e w1 ⟨rfl, rfl⟩
    go_wp2_with fail
    go_ret2
    exact ⟨rfl, HB0.out⟩

set_option maxHeartbeats 4000000 in
theorem rhouse13_any (A : Option Addr) (l : List NM.Leg) (n cap : Nat) (hn : n = l.length) (s : EM.Ser) (w : World) (hI : Legs w A l) :
    Calls Try.prog 27 #[.slice A n cap, serA s] w fun e w' => e = .returned (.tuple #[.int .i64 (NM.houseN l s), .int .i64 (NM.checkE l)]) ∧ Below w.heap.size w w' := by
  subst hn
  have hlen := hI.len
  have HB0 := Lib.hid ((Below.refl w.heap.size w).alloc (Nat.le_refl _) (.cells #[.string s.prod, .int .i64 s.kind, .int .i64 s.expiry, .int .i64 s.strike] 43))
  have HJ0 := Lib.hid (SBox.new w s)
  have C1 := Lib.hid (rcheck13_any A l l.length cap rfl _ (hI.below HB0.out))
  have HI := Lib.hid (hI.below HB0.out)
  clear hI
  by_cases hc : NM.checkE l = 0
  · have KB := Lib.hid (fun k => NM.fsum_bound (p := NM.ofS s) hc k)
    have K0 := Lib.hid (NM.fsum_zero (NM.ofS s) l)
    have KH := Lib.hid (fun k => @NM.fsum_hit (NM.ofS s) l k); have KM := Lib.hid (fun k => @NM.fsum_miss (NM.ofS s) l k)
    have KE : Hid (-NM.fsum (NM.ofS s) l l.length = NM.houseN l s) := Lib.hid (by rw [NM.fsum_end, NM.house_ok hc])
    have KQ := Lib.hid (fun k (hk : k < l.length) => NM.qty_bound hc hk)
    generalize NM.houseN l s = r at *
    rw [hc] at C1 ⊢
    have gs := ser_guard
    clear hc
    go_enter Try.func27, Try.ntmps27
    go_wp2_with fail
    refine C1.out.mono ?_
    rintro e w1 ⟨rfl, rfl⟩
    obtain ⟨s0, s1, s2, s3⟩ := HJ0.out.cells
    generalize w.alloc (.cells #[.string s.prod, .int .i64 s.kind, .int .i64 s.expiry, .int .i64 s.strike] 43) = w0 at *
    go_wp2_with fail
    go_loopw [7, 8] (fun v i wr => ∃ (k : Nat) (x : Int), k ≤ l.length ∧ i = .int .i64 (k : Int) ∧ v = .int .i64 x ∧ -2147483648 ≤ x ∧ x ≤ 2147483648 ∧ Hid (x = -NM.fsum (NM.ofS s) l k) ∧ ∃ nd, wr = w0.drewN nd) (fun _ i _ => l.length - (intOf i).toNat)
    case atStart => exact ⟨0, 0, by omega, rfl, rfl, by omega, by omega, Lib.hid (by rw [K0.out]; rfl), 0, rfl⟩
    case round =>
      obtain ⟨k, y, hk, rfl, rfl, y1, y2, HE, nd, rfl⟩ := hrel
      by_cases hlt : k < l.length
      · obtain ⟨b, off, x, rfl, hb, HV, q, d0, d1, d2, d3, d4, d5, d6, d7, d8⟩ := legs_get HI.out hlt
        have E2 : ∀ ww, (Op.equalIn 10000 43 (serA x.ser) (serA s)).run Try.prog ww = .ok (NM.seqB x.ser s) ww := fun ww => serB_in x.ser s ww
        have hqb := KQ.out k hlt
        rw [HV.out] at hqb
        have hq1 := hqb.1; have hq2 := hqb.2
        have HW : Hid ((NM.ofS s x = false → y = -NM.fsum (NM.ofS s) l (k + 1)) ∧ (NM.ofS s x = true → y - x.qty = -NM.fsum (NM.ofS s) l (k + 1))) := Lib.hid ⟨fun h => by rw [KM.out k hlt (by rw [HV.out]; exact h), ← HE.out], fun h => by rw [KH.out k hlt (by rw [HV.out]; exact h), HV.out, HE.out]; omega⟩
        have hbd := Lib.hid (KB.out (k + 1))
        have hdef : NM.ofS s x = NM.seqB x.ser s := rfl
        rw [hdef] at HW
        clear hdef
        cases hs : NM.seqB x.ser s
        · rw [hs] at E2
          have HX := Lib.hid (HW.out.1 hs)
          clear hbd HW hs q HV hqb
          go_wp2_with fail
          go_quiet (fail)
          go_wp2_with fail
          go_roundw
          case rel => exact ⟨k + 1, y, by omega, by go_num, rfl, y1, y2, HX, by first | exact ⟨nd, rfl⟩ | exact ⟨_, rfl⟩ | exact ⟨nd + 1, rfl⟩⟩
          case measure => simp [intOf]; omega
        · rw [hs] at E2
          have HX := Lib.hid (HW.out.2 hs)
          have hb2 : -2147483648 ≤ y - x.qty ∧ y - x.qty ≤ 2147483648 := by rw [HX.out]; have := hbd.out; omega
          have hb3 := hb2.1; have hb4 := hb2.2
          clear hbd HW hb2 hs q HV hqb
          go_wp2_with fail
          go_quiet (fail)
          go_wp2_with fail
          go_roundw
          case rel => exact ⟨k + 1, y - x.qty, by omega, by go_num, by go_num, hb3, hb4, HX, by first | exact ⟨nd, rfl⟩ | exact ⟨_, rfl⟩ | exact ⟨nd + 1, rfl⟩⟩
          case measure => simp [intOf]; omega
      · obtain rfl : k = l.length := by omega
        have HR := Lib.hid (HE.out.trans KE.out)
        go_wp2_with fail
        go_ret2
        exact ⟨by rw [HR.out] <;> rfl, below_drewN HB0.out _⟩
  · rw [NM.house_no hc]
    have hne : (NM.checkE l != 0) = true := by simpa using hc
    generalize NM.checkE l = r at *
    go_enter Try.func27, Try.ntmps27
    go_wp2_with fail
    refine C1.out.mono ?_
    rintro e w1 ⟨rfl, rfl⟩
    go_wp2_with fail
    go_ret2
    exact ⟨rfl, HB0.out⟩

set_option maxHeartbeats 4000000 in
theorem rsame13_any (A B : Option Addr) (l : List NM.Leg) (n c m d : Nat) (hn : n = l.length) (hm : m = l.length) (w : World) (hI : Legs w A l) (hJ : Legs w B l) :
    Calls Try.prog 22 #[.slice A n c, .slice B m d] w fun e w' => e = .returned (.bool true) ∧ ∃ k, w' = w.drewN k := by
  subst hn hm
  have hlen := hI.len
  have gl := leg_guard
  go_enter Try.func22, Try.ntmps22
  go_wp2_with fail
  go_loopw [5] (fun i wr => ∃ k : Nat, k ≤ l.length ∧ i = .int .i64 (k : Int) ∧ ∃ nd, wr = w.drewN nd) (fun i _ => l.length - (intOf i).toNat)
  case atStart => exact ⟨0, by omega, rfl, 0, rfl⟩
  case round =>
    obtain ⟨k, hk, rfl, nd, rfl⟩ := hrel
    by_cases hlt : k < l.length
    · obtain ⟨b, off, x, rfl, hb, HV, q, d0, d1, d2, d3, d4, d5, d6, d7, d8⟩ := legs_get hI hlt
      obtain ⟨b', off', x', rfl, hb', HV', q', g0, g1, g2, g3, g4, g5, g6, g7, g8⟩ := legs_get hJ hlt
      obtain rfl : x = x' := HV.out.symm.trans HV'.out
      have HI := Lib.hid hI; have HJ := Lib.hid hJ
      have E1 : ∀ ww, (Op.equalIn 10000 47 (legA x) (legA x)).run Try.prog ww = .ok true ww := fun ww => by rw [leg_in, NM.leq_iff.2 rfl]
      clear q q' HV HV' hI hJ
      go_wp2_with fail
      go_quiet (fail)
      go_wp2_with fail
      go_roundw
      case rel => exact ⟨k + 1, by omega, by go_num, by first | exact ⟨nd, rfl⟩ | exact ⟨_, rfl⟩ | exact ⟨nd + 1, rfl⟩⟩
      case measure => simp [intOf]; omega
    · obtain rfl : k = l.length := by omega
      go_wp2_with fail
      go_ret
      exact ⟨rfl, nd, rfl⟩

set_option maxHeartbeats 4000000 in
theorem rflat13_any (A : Option Addr) (l : List NM.Leg) (n cap : Nat) (hn : n = l.length) (w : World) (hI : Legs w A l) :
    Calls Try.prog 29 #[.slice A n cap] w fun e w' => e = .returned (.bool (NM.flatB l)) ∧ Below w.heap.size w w' := by
  subst hn
  have hlen := hI.len
  have KN := Lib.hid (@NM.flat_no l); have KB := Lib.hid (fun k => @NM.flat_bad l k); have KY := Lib.hid (@NM.flat_yes l)
  have KC : Hid (0 < l.length → ¬ NM.checkE l = 0 → NM.flatB l = false) := Lib.hid (fun _ h => NM.flat_no h)
  have K0 : Hid (l.length = 0 → NM.checkE l = 0) := Lib.hid (fun h => by
    have : l = [] := List.eq_nil_of_length_eq_zero h
    subst this; rfl)
  have C1 := Lib.hid (fun s ww h => rhouse13_any A l l.length cap rfl s ww h)
  generalize NM.flatB l = r at *
  have HI := Lib.hid hI
  clear hI
  go_enter Try.func29, Try.ntmps29
  go_wp2_with fail
  go_loopw [3, 4, 5] (fun i _ _ wr => ∃ k : Nat, k ≤ l.length ∧ i = .int .i64 (k : Int) ∧ Hid (0 < k → NM.checkE l = 0) ∧ Hid (∀ j, j < k → NM.houseN l (NM.lAt l j).ser = 0) ∧ Hid (Below w.heap.size w wr)) (fun i _ _ _ => l.length - (intOf i).toNat)
  case atStart => exact ⟨0, by omega, rfl, Lib.hid (fun h => by omega), Lib.hid (fun j h => by omega), Lib.hid (Below.refl _ _)⟩
  case round =>
    obtain ⟨k, hk, rfl, HZ, HE, HB⟩ := hrel
    by_cases hlt : k < l.length
    · obtain ⟨b, off, x, rfl, hb, HV, q, d0, d1, d2, d3, d4, d5, d6, d7, d8⟩ := legs_get (HI.out.below HB.out) hlt
      have C2 := Lib.hid (C1.out x.ser wr (HI.out.below HB.out))
      have HX : Hid (NM.houseN l (NM.lAt l k).ser = NM.houseN l x.ser) := Lib.hid (by rw [HV.out])
      clear q C1
      by_cases hh : NM.houseN l x.ser = 0
      · by_cases hc : NM.checkE l = 0
        · rw [hh, hc] at C2
          have HE2 : Hid (∀ j, j < k + 1 → NM.houseN l (NM.lAt l j).ser = 0) := Lib.hid (fun j hj => by
            rcases Nat.lt_or_ge j k with g | g
            · exact HE.out j g
            · obtain rfl : j = k := by omega
              rw [HX.out]; exact hh)
          have HZ2 : Hid (0 < k + 1 → NM.checkE l = 0) := Lib.hid (fun _ => hc)
          clear hh hc
          go_wp2_with fail
          refine C2.out.mono ?_
          rintro e w1 ⟨rfl, b1⟩
          have HB1 := Lib.hid (HB.out.trans (b1.mono HB.out.size))
          clear b1
          go_wp2_with fail
          go_roundw
          case rel => exact ⟨k + 1, by omega, by go_num, HZ2, HE2, HB1⟩
          case measure => simp [intOf]; omega
        · rw [hh] at C2
          have hne : (NM.checkE l != 0) = true := by simpa using hc
          have HR := Lib.hid (KN.out hc)
          generalize NM.checkE l = ce at *
          clear hh hc
          go_wp2_with fail
          refine C2.out.mono ?_
          rintro e w1 ⟨rfl, b1⟩
          have HB1 := Lib.hid (HB.out.trans (b1.mono HB.out.size))
          clear b1
          go_wp2_with fail
          go_ret
          exact ⟨by rw [HR.out] <;> rfl, HB1.out⟩
      · have hne : (NM.houseN l x.ser != 0) = true := by simpa using hh
        have HR := Lib.hid (KB.out k hlt (by rw [HX.out]; exact hh))
        generalize NM.houseN l x.ser = hx at *
        clear hh
        go_wp2_with fail
        refine C2.out.mono ?_
        rintro e w1 ⟨rfl, b1⟩
        have HB1 := Lib.hid (HB.out.trans (b1.mono HB.out.size))
        clear b1
        go_wp2_with fail
        go_ret
        exact ⟨by rw [HR.out] <;> rfl, HB1.out⟩
    · obtain rfl : k = l.length := by omega
      have HC : Hid (NM.checkE l = 0) := Lib.hid (by
        rcases Nat.eq_zero_or_pos l.length with h | h
        · exact K0.out h
        · exact HZ.out h)
      have HR := Lib.hid (KY.out HC.out HE.out)
      go_wp2_with fail
      go_ret
      exact ⟨by rw [HR.out] <;> rfl, HB.out⟩
end Go.Proofs.Ytafdjiilmogcjaa

/- Trades in memory, over any program. -/
namespace Go.Recs
open Go.RowKit
set_option linter.unusedVariables false
def trdV (t : TM.Trd) : List Value := [.int .i64 t.id, .int .i64 t.day, .int .i64 t.time, .string t.ser.prod, .int .i64 t.ser.kind, .int .i64 t.ser.expiry, .int .i64 t.ser.strike, .int .i64 t.qty, .int .i64 t.price, .string t.bm, .string t.bn, .string t.sm, .string t.sn]
def trdQ (t : TM.Trd) : Prop := i64 t.id ∧ i64 t.day ∧ i64 t.time ∧ serQ t.ser ∧ i64 t.qty ∧ i64 t.price ∧ t.bm.size ≤ maxLen ∧ t.bn.size ≤ maxLen ∧ t.sm.size ≤ maxLen ∧ t.sn.size ≤ maxLen
def trdL : List Leaf := [.int .i64, .int .i64, .int .i64, .str, .int .i64, .int .i64, .int .i64, .int .i64, .int .i64, .str, .str, .str, .str]
theorem trd_row (r : List Value) (h : okAll trdL r) : ∃ t : TM.Trd, r = trdV t ∧ trdQ t := by
  obtain ⟨c0, r0, rfl, ⟨n0, rfl, h0⟩, g0⟩ := okAll_cons h
  obtain ⟨c1, r1, rfl, ⟨n1, rfl, h1⟩, g1⟩ := okAll_cons g0
  obtain ⟨c2, r2, rfl, ⟨n2, rfl, h2⟩, g2⟩ := okAll_cons g1
  obtain ⟨c3, r3, rfl, ⟨s3, rfl, h3⟩, g3⟩ := okAll_cons g2
  obtain ⟨c4, r4, rfl, ⟨n4, rfl, h4⟩, g4⟩ := okAll_cons g3
  obtain ⟨c5, r5, rfl, ⟨n5, rfl, h5⟩, g5⟩ := okAll_cons g4
  obtain ⟨c6, r6, rfl, ⟨n6, rfl, h6⟩, g6⟩ := okAll_cons g5
  obtain ⟨c7, r7, rfl, ⟨n7, rfl, h7⟩, g7⟩ := okAll_cons g6
  obtain ⟨c8, r8, rfl, ⟨n8, rfl, h8⟩, g8⟩ := okAll_cons g7
  obtain ⟨c9, r9, rfl, ⟨s9, rfl, h9⟩, g9⟩ := okAll_cons g8
  obtain ⟨c10, r10, rfl, ⟨s10, rfl, h10⟩, g10⟩ := okAll_cons g9
  obtain ⟨c11, r11, rfl, ⟨s11, rfl, h11⟩, g11⟩ := okAll_cons g10
  obtain ⟨c12, r12, rfl, ⟨s12, rfl, h12⟩, g12⟩ := okAll_cons g11
  rw [okAll_nil g12]
  exact ⟨⟨n0, n1, n2, ⟨s3, n4, n5, n6⟩, n7, n8, s9, s10, s11, s12⟩, rfl, bounds_i64 h0, bounds_i64 h1, bounds_i64 h2, ⟨h3, bounds_i64 h4, bounds_i64 h5, bounds_i64 h6⟩, bounds_i64 h7, bounds_i64 h8, h9, h10, h11, h12⟩
abbrev Trds := TR trdV trdQ 13
theorem trds_get {w : World} {A : Option Addr} {l : List TM.Trd} (h : Trds w A l) {k : Nat} (hk : k < l.length) :
    ∃ b off, ∃ t : TM.Trd, A = some ⟨b, off, none⟩ ∧ b < w.heap.size ∧ Hid (TM.tAt l k = t) ∧ trdQ t ∧ w.cell? ⟨b, off + k * 13, none⟩ = some (.int .i64 t.id) ∧ w.cell? ⟨b, off + k * 13 + 1, none⟩ = some (.int .i64 t.day) ∧
      w.cell? ⟨b, off + k * 13 + 2, none⟩ = some (.int .i64 t.time) ∧ w.cell? ⟨b, off + k * 13 + 3, none⟩ = some (.string t.ser.prod) ∧ w.cell? ⟨b, off + k * 13 + 4, none⟩ = some (.int .i64 t.ser.kind) ∧
      w.cell? ⟨b, off + k * 13 + 5, none⟩ = some (.int .i64 t.ser.expiry) ∧ w.cell? ⟨b, off + k * 13 + 6, none⟩ = some (.int .i64 t.ser.strike) ∧ w.cell? ⟨b, off + k * 13 + 7, none⟩ = some (.int .i64 t.qty) ∧
      w.cell? ⟨b, off + k * 13 + 8, none⟩ = some (.int .i64 t.price) ∧ w.cell? ⟨b, off + k * 13 + 9, none⟩ = some (.string t.bm) ∧ w.cell? ⟨b, off + k * 13 + 10, none⟩ = some (.string t.bn) ∧
      w.cell? ⟨b, off + k * 13 + 11, none⟩ = some (.string t.sm) ∧ w.cell? ⟨b, off + k * 13 + 12, none⟩ = some (.string t.sn) := by
  obtain ⟨b, off, rfl, hb, hq, hc⟩ := h.at_ hk
  exact ⟨b, off, l[k], rfl, hb, Lib.hid (TM.tAt_get hk), hq, hc 0 (by omega), hc 1 (by omega), hc 2 (by omega), hc 3 (by omega), hc 4 (by omega), hc 5 (by omega), hc 6 (by omega), hc 7 (by omega), hc 8 (by omega), hc 9 (by omega), hc 10 (by omega), hc 11 (by omega), hc 12 (by omega)⟩
/-- all cells of record k at once -/
def TCell (w : World) (b o : Nat) (t : TM.Trd) : Prop := w.cell? ⟨b, o, none⟩ = some (.int .i64 t.id) ∧ w.cell? ⟨b, o + 1, none⟩ = some (.int .i64 t.day) ∧
      w.cell? ⟨b, o + 2, none⟩ = some (.int .i64 t.time) ∧ w.cell? ⟨b, o + 3, none⟩ = some (.string t.ser.prod) ∧ w.cell? ⟨b, o + 4, none⟩ = some (.int .i64 t.ser.kind) ∧
      w.cell? ⟨b, o + 5, none⟩ = some (.int .i64 t.ser.expiry) ∧ w.cell? ⟨b, o + 6, none⟩ = some (.int .i64 t.ser.strike) ∧ w.cell? ⟨b, o + 7, none⟩ = some (.int .i64 t.qty) ∧
      w.cell? ⟨b, o + 8, none⟩ = some (.int .i64 t.price) ∧ w.cell? ⟨b, o + 9, none⟩ = some (.string t.bm) ∧ w.cell? ⟨b, o + 10, none⟩ = some (.string t.bn) ∧
      w.cell? ⟨b, o + 11, none⟩ = some (.string t.sm) ∧ w.cell? ⟨b, o + 12, none⟩ = some (.string t.sn)
theorem trdV_one (l : List TM.Trd) : ∀ r ∈ l.map trdV, ∀ u ∈ r, u.oneCell' = true := by
  intro r hr
  obtain ⟨t, _, rfl⟩ := List.mem_map.1 hr
  intro u hu
  simp only [trdV, List.mem_cons, List.not_mem_nil, or_false] at hu
  rcases hu with rfl | rfl | rfl | rfl | rfl | rfl | rfl | rfl | rfl | rfl | rfl | rfl | rfl <;> rfl
end Go.Recs

/- A trade in a box and in slices. -/
namespace Go.Proofs.Ytafdjiilmogcjaa
open Go.RowKit Go.Recs
set_option linter.unusedVariables false
set_option linter.unusedSimpArgs false
abbrev trdA (t : TM.Trd) : Value := .agg #[.int .i64 t.id, .int .i64 t.day, .int .i64 t.time, .string t.ser.prod, .int .i64 t.ser.kind, .int .i64 t.ser.expiry, .int .i64 t.ser.strike, .int .i64 t.qty, .int .i64 t.price, .string t.bm, .string t.bn, .string t.sm, .string t.sn]
abbrev trdC (t : TM.Trd) : Array Value := #[.int .i64 t.id, .int .i64 t.day, .int .i64 t.time, .string t.ser.prod, .int .i64 t.ser.kind, .int .i64 t.ser.expiry, .int .i64 t.ser.strike, .int .i64 t.qty, .int .i64 t.price, .string t.bm, .string t.bn, .string t.sm, .string t.sn]
theorem info_trd : (Try.prog.info? 45).map (fun i => (i.zero, i.size, i.bytes)) = some (some (trdA TM.zero), 13, 144) := by kernel_rfl
end Go.Proofs.Ytafdjiilmogcjaa

/- Contracts of layer 13: the legs of one trade, and what takes one back. -/
namespace Go.Proofs.Ytafdjiilmogcjaa
open Go.RowKit Go.Recs
set_option linter.unusedVariables false
set_option linter.unusedSimpArgs false
theorem wrap_min : wrap64 9223372036854775808 = -9223372036854775808 := by kernel_rfl
theorem neg64_min : NM.neg64 (-9223372036854775808) = -9223372036854775808 := rfl
theorem neg64_other {x : Int} (h : ¬ x = -9223372036854775808) : NM.neg64 x = -x := by unfold NM.neg64; rw [if_neg h]
theorem neg64_i64 {x : Int} (h : i64 x) : i64 (NM.neg64 x) := by
  unfold NM.neg64 i64 at *
  split <;> omega
set_option maxHeartbeats 1000000 in
theorem nundo_any (x : NM.Leg) (w : World) (hq : legQ x) :
    Calls Try.prog 20 #[legA x] w fun e w' => e = .returned (legA (NM.undo x)) ∧ Below w.heap.size w w' := by
  obtain ⟨am, an, s, q, p, t⟩ := x
  obtain ⟨-, -, -, ⟨q1, q2⟩, -, -⟩ := hq
  simp only at q1 q2
  have HB0 := Lib.hid (fun (a b : Array Value) => ((Below.refl w.heap.size w).alloc (Nat.le_refl _) (.cells a 47)).alloc (by simp) (.cells b 47))
  unfold NM.undo
  simp only
  by_cases h : q = -9223372036854775808
  · subst h
    rw [neg64_min]
    have hw := wrap_min
    go_enter Try.func20, Try.ntmps20
    go_wp2_with fail
    (try simp only [Exit.inBlock, Exit.then])
    exact bodyPost_ret (results_leg (x := ⟨am, an, s, -9223372036854775808, p, t⟩) rfl _ _ _ rfl (CB.new1 _ _ _ _)) rfl ⟨rfl, HB0.out _ _⟩
  · rw [neg64_other h]
    have h1 : -9223372036854775807 ≤ q := by omega
    clear h q1
    go_enter Try.func20, Try.ntmps20
    go_wp2_with fail
    (try simp only [Exit.inBlock, Exit.then])
    exact bodyPost_ret (results_leg (x := ⟨am, an, s, -q, p, t⟩) rfl _ _ _ rfl (CB.new1 _ _ _ _)) rfl ⟨rfl, HB0.out _ _⟩
set_option maxHeartbeats 1000000 in
theorem rundo13_any (x : NM.Leg) (w : World) (hq : legQ x) :
    Calls Try.prog 21 #[legA x] w fun e w' => e = .returned (legA (NM.undo x)) ∧ Below w.heap.size w w' := by
  obtain ⟨am, an, s, q, p, t⟩ := x
  obtain ⟨-, -, -, ⟨q1, q2⟩, -, -⟩ := hq
  simp only at q1 q2
  have HB0 := Lib.hid (fun (a b : Array Value) => ((Below.refl w.heap.size w).alloc (Nat.le_refl _) (.cells a 47)).alloc (by simp) (.cells b 47))
  unfold NM.undo
  simp only
  by_cases h : q = -9223372036854775808
  · subst h
    rw [neg64_min]
    have hw := wrap_min
    go_enter Try.func21, Try.ntmps21
    go_wp2_with fail
    (try simp only [Exit.inBlock, Exit.then])
    exact bodyPost_ret (results_leg (x := ⟨am, an, s, -9223372036854775808, p, t⟩) rfl _ _ _ rfl (CB.new1 _ _ _ _)) rfl ⟨rfl, HB0.out _ _⟩
  · rw [neg64_other h]
    have h1 : -9223372036854775807 ≤ q := by omega
    clear h q1
    go_enter Try.func21, Try.ntmps21
    go_wp2_with fail
    (try simp only [Exit.inBlock, Exit.then])
    exact bodyPost_ret (results_leg (x := ⟨am, an, s, -q, p, t⟩) rfl _ _ _ rfl (CB.new1 _ _ _ _)) rfl ⟨rfl, HB0.out _ _⟩

abbrev legW (w : World) (t : TM.Trd) (a b : ByteArray) (q : Int) : World := ((w.alloc (.cells (trdC t) 90)).alloc (.cells (kC a b) 26)).alloc (.cells (legC ⟨a, b, t.ser, q, t.price, t.id⟩) 47)
set_option maxHeartbeats 1000000 in
theorem nleg_any (t : TM.Trd) (a b : ByteArray) (q : Int) (w : World) :
    Calls Try.prog 44 #[trdA t, kA a b, .int .i64 q] w fun e w' => e = .returned (legA ⟨a, b, t.ser, q, t.price, t.id⟩) ∧ w' = legW w t a b q := by
  go_enter Try.func44, Try.ntmps44
  go_wp2_with fail
  (try simp only [Exit.inBlock, Exit.then])
  exact bodyPost_ret (results_leg (x := ⟨a, b, t.ser, q, t.price, t.id⟩) rfl _ _ _ rfl (CB.new2 _ _ _ _ _)) rfl ⟨rfl, rfl⟩

set_option maxHeartbeats 2000000 in
theorem rlegs13_any (t : TM.Trd) (w : World) (hq : trdQ t) :
    Calls Try.prog 18 #[trdA t] w fun e w' => e = .returned (.tuple #[legA (NM.bought t), legA (NM.sold t)]) ∧ Below w.heap.size w w' := by
  obtain ⟨-, -, -, -, ⟨q1, q2⟩, -, -, -, -, -⟩ := hq
  have HB0 := Lib.hid (fun a b c d e => below_al (below_al (below_al (below_al (below_al (Below.refl w.heap.size w) a) b) c) d) e)
  by_cases h : t.qty = -9223372036854775808
  · have e1 : NM.sold t = ⟨t.sm, t.sn, t.ser, -9223372036854775808, t.price, t.id⟩ := by unfold NM.sold; rw [h]; rfl
    obtain ⟨id, day, time, s, q, p, bm, bn, sm, sn⟩ := t
    simp only at h
    subst h
    rw [e1]
    have hw := wrap_min
    clear e1 q1 q2
    unfold NM.bought
    go_enter Try.func18, Try.ntmps18
    go_wp2_with fail
    go_region
    all_goals (
      go_wp2_with fail
      (try simp only [Exit.inBlock, Exit.then])
      exact bodyPost_ret (results_legs (x := ⟨bm, bn, s, -9223372036854775808, p, id⟩) (y := ⟨sm, sn, s, -9223372036854775808, p, id⟩) rfl _ _ _ _ rfl rfl ((((CB.new1 _ _ _ _).alloc _).alloc _).alloc _) (((CB.new2 _ _ _ _ _).alloc _).alloc _)) rfl ⟨rfl, (HB0.out _ _ _ _ _).drew⟩)
  · have e1 : NM.sold t = ⟨t.sm, t.sn, t.ser, -t.qty, t.price, t.id⟩ := by unfold NM.sold; rw [neg64_other h]
    have h1 : -9223372036854775807 ≤ t.qty := by omega
    rw [e1]
    clear e1 h q1
    unfold NM.bought
    go_enter Try.func18, Try.ntmps18
    go_wp2_with fail
    go_region
    all_goals (
      go_wp2_with fail
      (try simp only [Exit.inBlock, Exit.then])
      exact bodyPost_ret (results_legs (x := ⟨t.bm, t.bn, t.ser, t.qty, t.price, t.id⟩) (y := ⟨t.sm, t.sn, t.ser, -t.qty, t.price, t.id⟩) rfl _ _ _ _ rfl rfl ((((CB.new1 _ _ _ _).alloc _).alloc _).alloc _) (((CB.new2 _ _ _ _ _).alloc _).alloc _)) rfl ⟨rfl, (HB0.out _ _ _ _ _).drew⟩)

end Go.Proofs.Ytafdjiilmogcjaa
