/- Contracts of layer 11: Add, Status, Open, May. -/
import Derived.Test.YtlnllbcpbohahabMemG
import Derived.Test.YtlnllbcpbohahabMemH
import Derived.Deep.RegionWith
namespace Go.Proofs.Ytlnllbcpbohahab
open Go.RowKit Go.Recs
set_option linter.unusedVariables false
set_option linter.unusedSimpArgs false

/-- the slice v holds the members l -/
def MemR (w : World) (v : Value) (l : List MM.Mem) : Prop := ∃ A cap, v = .slice A l.length cap ∧ Mems w A l ∧ l.length ≤ cap
theorem MemR.nil (w : World) : MemR w (.slice none 0 0) [] := ⟨none, 0, rfl, Mems.nil _ _, Nat.le_refl _⟩
theorem MemR.below {w w' : World} {v : Value} {l : List MM.Mem} (h : MemR w v l) (hb : Below w.heap.size w w') : MemR w' v l := by
  obtain ⟨A, cap, e, hM, hc⟩ := h
  exact ⟨A, cap, e, hM.below hb, hc⟩
theorem own_memr {t : TypeId} {w : World} {B : Nat} {v : Value} {rows : List MRow} {l : List MM.Mem} (h : OwnM t w B v rows) (e : rows.map MRow.m = l) : MemR w v l := by
  obtain ⟨A, cap, e1, h1, h2⟩ := h.mems
  rw [e] at e1 h1 h2
  exact ⟨A, cap, e1, h1, h2⟩
theorem ad_bad {l : List MM.Mem} {n : ByteArray} (h : MM.checkE l ≠ 0) : MM.addE l n = MM.checkE l ∧ MM.addL l n = [] := by
  have e : MM.addE l n = MM.checkE l := by unfold MM.addE; rw [if_pos h]
  exact ⟨e, by unfold MM.addL; rw [e, if_neg h]⟩
theorem ad_name {l : List MM.Mem} {n : ByteArray} (h : MM.checkE l = 0) (h2 : MM.okN n = false) : MM.addE l n = 10 ∧ MM.addL l n = [] := by
  have e : MM.addE l n = 10 := by unfold MM.addE; rw [if_neg (by simp [h]), if_pos h2]
  exact ⟨e, by unfold MM.addL; rw [e, if_neg (by decide)]⟩
theorem ad_there {l : List MM.Mem} {n : ByteArray} (h : MM.checkE l = 0) (h2 : MM.okN n = true) (h3 : (MM.pl l n).isSome = true) : MM.addE l n = 12 ∧ MM.addL l n = [] := by
  have e : MM.addE l n = 12 := by unfold MM.addE; rw [if_neg (by simp [h]), if_neg (by simp [h2]), if_pos h3]
  exact ⟨e, by unfold MM.addL; rw [e, if_neg (by decide)]⟩
theorem ad_long {l : List MM.Mem} {n : ByteArray} (h : MM.checkE l = 0) (h2 : MM.okN n = true) (h3 : (MM.pl l n).isSome = false) (h4 : 32 ≤ l.length) : MM.addE l n = 8 ∧ MM.addL l n = [] := by
  have e : MM.addE l n = 8 := by unfold MM.addE; rw [if_neg (by simp [h]), if_neg (by simp [h2]), if_neg (by simp [h3]), if_pos h4]
  exact ⟨e, by unfold MM.addL; rw [e, if_neg (by decide)]⟩
theorem ad_ok {l : List MM.Mem} {n : ByteArray} (h : MM.checkE l = 0) (h2 : MM.okN n = true) (h3 : (MM.pl l n).isSome = false) (h4 : ¬ 32 ≤ l.length) : MM.addE l n = 0 ∧ MM.addL l n = MM.insM n l := by
  have e : MM.addE l n = 0 := by unfold MM.addE; rw [if_neg (by simp [h]), if_neg (by simp [h2]), if_neg (by simp [h3]), if_neg h4]
  exact ⟨e, by unfold MM.addL; rw [if_pos e]⟩

theorem small_rows {l : List MM.Mem} (h : MM.checkE l = 0) : l.length ≤ 32 ∧ ∀ m ∈ l, m.accs.length ≤ 16 := by
  obtain ⟨h1, h2⟩ := MM.check_mem h
  refine ⟨h1, fun m hm => ?_⟩
  obtain ⟨i, hi, rfl⟩ := List.mem_iff_getElem.1 hm
  have := (MM.mem_at hi h2).2.2.1
  omega

set_option maxHeartbeats 8000000 in
theorem padd_any (A : Option Addr) (l : List MM.Mem) (cap : Nat) (n : ByteArray) (w : World) (hI : Mems w A l) (hcap : l.length ≤ cap) (hn : n.size ≤ maxLen) :
    Calls Try.prog 7 #[.slice A l.length cap, .string n] w fun e w' => ∃ v, e = .returned (.tuple #[v, .int .i64 (MM.addE l n)]) ∧ MemR w' v (MM.addL l n) ∧ Below w.heap.size w w' := by
  have hmf : ∀ (fn : Fn) (first cap : Array Value) (w : World), (Instr.makeFunc fn first cap).run Try.prog w = .ok (.func fn first cap) w := fun _ _ _ _ => rfl
  have hlen := hI.len
  have HB0 := Lib.hid ((Below.refl w.heap.size w).alloc (Nat.le_refl _) (.cells #[.string n] 9))
  have HG0 := Lib.hid (CB.new w 9 #[.string n])
  have HI := Lib.hid hI
  have C0 := Lib.hid (fun ww h => mcheck_any A l cap ww h)
  have C1 := Lib.hid (fun ww => name_any n ww hn)
  have C2 := Lib.hid (fun ww h => mpl_any A l cap n ww h)
  clear hI
  by_cases hc : MM.checkE l = 0
  · have K1 := Lib.hid (@ad_name l n hc); have K2 := Lib.hid (@ad_there l n hc); have K3 := Lib.hid (@ad_long l n hc); have K4 := Lib.hid (@ad_ok l n hc)
    obtain ⟨hs1, hs2⟩ := small_rows hc
    have HS2 := Lib.hid hs2
    have C3 := Lib.hid (fun g ww h hg => mplace2_any A l cap g n ww h hg)
    have C4 := Lib.hid (fun (rows : List (List Value)) (k : Nat) ww h1 h2 h3 h4 h5 h6 => mins_any A rows l.length cap k ⟨n, 1, []⟩ none 0 ww h1 h2 h3 h4 h5 h6)
    have C5 := Lib.hid (fun A' rows' n' cap' ww h1 h2 h3 h4 => mown_any A' rows' n' cap' ww h1 h2 h3 h4)
    have KI : Hid (MM.insM n l = l.take (MM.at_ (fun m => MM.lt n m.name) l) ++ ⟨n, 1, []⟩ :: l.drop (MM.at_ (fun m => MM.lt n m.name) l) ∧ MM.at_ (fun m => MM.lt n m.name) l ≤ l.length) := Lib.hid ⟨MM.ins_at _ _ _, MM.at_le _ _⟩
    rw [hc] at C0
    have eN : MM.okN n = WM.name (L n) := rfl
    rw [eN] at K1 K2 K3 K4
    clear hc eN hs2
    generalize MM.addE l n = r at *
    generalize MM.addL l n = out at *
    generalize MM.insM n l = il at *
    generalize MM.at_ (fun m => MM.lt n m.name) l = k at *
    generalize (l.findIdx? (fun m => MM.lt n m.name)).isSome = y2 at *
    generalize (MM.pl l n).isSome = y at *
    generalize plN (MM.pl l n) l.length = x at *
    generalize WM.name (L n) = b0 at *
    go_enter Try.func7, Try.ntmps7
    go_wp2_with fail
    generalize w.alloc (.cells #[.string n] 9) = w0 at *
    refine (C0.out _ (HI.out.below HB0.out)).mono ?_
    rintro e w1 ⟨rfl, b1⟩
    have HB1 := Lib.hid (HB0.out.trans (b1.mono HB0.out.size))
    have HG1 := Lib.hid (HG0.out.below b1 HG0.out.lt)
    clear b1 HB0 HG0 C0
    have c0 : w1.cell? ⟨w.heap.size, 0, none⟩ = some (.string n) := HG1.out.cell 0
    go_wp2_with fail
    refine (C1.out _).mono ?_
    rintro e w2 ⟨rfl, rfl⟩
    cases b0
    · have HX := Lib.hid (K1.out (by trivial))
      go_wp2_with fail
      go_ret2
      exact ⟨_, by rw [HX.out.1] <;> rfl, by rw [HX.out.2]; exact MemR.nil _, HB1.out⟩
    go_wp2_with fail
    refine (C2.out _ (HI.out.below HB1.out)).mono ?_
    rintro e w2 ⟨rfl, b2⟩
    have HB2 := Lib.hid (HB1.out.trans (b2.mono HB1.out.size))
    have HG2 := Lib.hid (HG1.out.below b2 HG1.out.lt)
    clear b2 HB1 HG1 C2 c0
    cases y
    rotate_left
    · have HX := Lib.hid (K2.out (by trivial) (by trivial))
      go_wp2_with fail
      go_ret2
      exact ⟨_, by rw [HX.out.1] <;> rfl, by rw [HX.out.2]; exact MemR.nil _, HB2.out⟩
    by_cases h32 : l.length = 32
    · have HX := Lib.hid (K3.out (by trivial) (by trivial) (by omega))
      have h32' : ((l.length : Int) == 32) = true := by simp; omega
      go_wp2_with fail
      go_ret2
      exact ⟨_, by rw [HX.out.1] <;> rfl, by rw [HX.out.2]; exact MemR.nil _, HB2.out⟩
    have HX := Lib.hid (K4.out (by trivial) (by trivial) (by omega))
    have h32' : ((l.length : Int) == 32) = false := by simp; omega
    have c0 : w2.cell? ⟨w.heap.size, 0, none⟩ = some (.string n) := HG2.out.cell 0
    clear K1 K2 K3 K4
    go_wp2_with fail
    refine (C3.out _ _ (HI.out.below HB2.out) HG2.out).mono ?_
    rintro e w3 ⟨rfl, b3⟩
    have HB3 := Lib.hid (HB2.out.trans (b3.mono HB2.out.size))
    have HG3 := Lib.hid (HG2.out.below b3 HG2.out.lt)
    clear b3 HB2 HG2 C3 c0
    have c0 : w3.cell? ⟨w.heap.size, 0, none⟩ = some (.string n) := HG3.out.cell 0
    obtain ⟨rows, he, hM⟩ := HI.out.below HB3.out
    have hrl : rows.length = l.length := by rw [← he]; simp
    have C6 := Lib.hid (C4.out (rows.map mrowV) k w3 (by simp [hrl]) (by simpa [hrl] using KI.out.2) (by simpa [hrl] using hcap) (mrowV_one rows) hM.1 (by simp [hrl]; omega))
    have HM := Lib.hid hM
    have HE := Lib.hid he
    clear he hM C4
    go_wp2_with fail
    refine C6.out.mono ?_
    rintro e w4 ⟨v4, rfl, hO4, b4⟩
    have HB4 := Lib.hid (HB3.out.trans (b4.mono HB3.out.size))
    have er : (rows.map mrowV).take k ++ (memC ⟨n, 1, []⟩ none 0).toList :: (rows.map mrowV).drop k = (rows.take k ++ ⟨⟨n, 1, []⟩, none, 0⟩ :: rows.drop k).map mrowV := by simp [mrowV, List.map_take, List.map_drop]
    rw [er] at hO4
    obtain ⟨A4, c4, rfl, hR4, hc4⟩ := hO4.recs
    have hq4 : ∀ r ∈ rows.take k ++ ⟨⟨n, 1, []⟩, none, 0⟩ :: rows.drop k, mrowQ w4 r ∧ r.m.accs.length ≤ 1000 := by
      intro r hr
      have old : ∀ r ∈ rows, mrowQ w4 r ∧ r.m.accs.length ≤ 1000 := fun r hr => ⟨(HM.out.2 r hr).below b4, by
        have := HS2.out r.m (by rw [← HE.out]; exact List.mem_map.2 ⟨r, hr, rfl⟩)
        omega⟩
      rcases List.mem_append.1 hr with hr | hr
      · exact old r (List.mem_of_mem_take hr)
      · rcases List.mem_cons.1 hr with rfl | hr
        · exact ⟨⟨hn, (show i64 1 from ⟨by decide, by decide⟩), TR.nil _ _, Nat.le_refl _⟩, by simp⟩
        · exact old r (List.mem_of_mem_drop hr)
    have hl4 : (rows.take k ++ ⟨⟨n, 1, []⟩, none, 0⟩ :: rows.drop k).length ≤ 1000 := by simp; omega
    have em : (rows.take k ++ (⟨⟨n, 1, []⟩, none, 0⟩ : MRow) :: rows.drop k).map MRow.m = il := by
      rw [KI.out.1, ← HE.out]; simp [List.map_take, List.map_drop]
    have C7 := Lib.hid (C5.out A4 _ ((rows.take k ++ (⟨⟨n, 1, []⟩, none, 0⟩ : MRow) :: rows.drop k).map mrowV).length c4 w4 (by simp) ⟨hR4, fun r hr => (hq4 r hr).1⟩ hl4 (fun r hr => (hq4 r hr).2))
    rw [em] at C7
    generalize (List.map mrowV (rows.take k ++ (⟨⟨n, 1, []⟩, none, 0⟩ : MRow) :: rows.drop k)).length = n4 at *
    clear hO4 hR4 hc4 hq4 hl4 em er b4 HM HE c0
    go_wp2_with fail
    refine C7.out.mono ?_
    rintro e w5 ⟨v5, rows5, rfl, e5, hO5, b5⟩
    have HB5 := Lib.hid (HB4.out.trans (b5.mono HB4.out.size))
    have HR5 := Lib.hid (own_memr hO5 e5)
    clear b5 hO5 e5
    go_wp2_with fail
    go_ret2
    exact ⟨_, by rw [HX.out.1] <;> rfl, by rw [HX.out.2]; exact HR5.out, HB5.out⟩
  · obtain ⟨e1, e2⟩ := @ad_bad l n hc
    rw [e1, e2]
    have hd : (MM.checkE l != 0) = true := by simpa using hc
    generalize MM.checkE l = y at *
    clear C1 C2 e1 e2 hc HG0
    go_enter Try.func7, Try.ntmps7
    go_wp2_with fail
    refine (C0.out _ (HI.out.below HB0.out)).mono ?_
    rintro e w1 ⟨rfl, b1⟩
    have HB1 := Lib.hid (HB0.out.trans (b1.mono HB0.out.size))
    clear b1 HB0 HI
    go_wp2_with fail
    go_ret2
    exact ⟨_, rfl, MemR.nil _, HB1.out⟩
end Go.Proofs.Ytlnllbcpbohahab
