/- Put together: PosSort, PosList, SortOwn, PosList2, PosH. -/
import Derived.Test.YtdhkflmodcgooaaBun7
import Derived.Test.YtdhkflmodcgooaaBun6
import Derived.Test.YtdhkflmodcgooaaBun8
import Derived.Shelf.SlSortCmp.NoneTotal
import Derived.Test.YtdhkflmodcgooaaBun1
import Derived.Shelf.GgSortFunc.InsertionK
import Derived.Deep.Cut
/- Layer 15: positions sorted by their series. -/
namespace Go.Proofs.Ytdhkflmodcgooaa
open Go.RowKit Go.Recs Go.Shelf Go.Sort
set_option linter.unusedVariables false
set_option linter.unusedSimpArgs false
instance : Inhabited PO.Pos := ⟨PO.zero⟩
theorem grow_drewN (w : World) (os : Array Obj) (q : Nat) : (grow w os).drewN q = grow (w.drewN q) os := rfl
theorem GR.trans {a b c : World} (h : GR a b) (k : GR b c) : GR a c := by
  obtain ⟨q, os, rfl⟩ := h
  obtain ⟨q', os', rfl⟩ := k
  refine ⟨q + q', os ++ os', ?_⟩
  rw [← Go.Sort.grow_grow, grow_drewN, World.drewN_drewN]
set_option maxHeartbeats 1000000 in
theorem pcmp_any (a b : PO.Pos) (w : World) : Calls Try.prog 89 #[posA a, posA b] w fun e w' => e = .returned (.int .i64 (EM.cmp a.ser b.ser)) ∧ GR w w' := by
  have HG0 := Lib.hid (((GR.refl w).alloc (.cells (posC a) 46)).alloc (.cells (posC b) 46))
  have C1 := Lib.hid (fun ww => ecmp_any a.ser b.ser ww)
  generalize EM.cmp a.ser b.ser = r at *
  go_enter Try.func89, Try.ntmps89
  go_wp2_with fail
  refine (C1.out _).mono ?_
  rintro e w1 ⟨rfl, g1⟩
  have HG1 := Lib.hid (HG0.out.trans g1)
  clear g1
  go_wp2_with fail
  go_ret
  exact ⟨rfl, HG1.out⟩
def pcmp (a b : PO.Pos) : Int := EM.cmp a.ser b.ser
def pltB (a b : PO.Pos) : Bool := EM.ltB a.ser b.ser
theorem ltOf_pcmp : Go.Proofs.ltOf pcmp = pltB := by
  funext a b; unfold Go.Proofs.ltOf pcmp pltB EM.ltB; rfl
theorem pswo : SWO (Go.Proofs.ltOf pcmp) := by
  rw [ltOf_pcmp]
  exact ⟨fun a => EM.swo.irrefl a.ser, fun a b c h1 h2 => EM.swo.trans a.ser b.ser c.ser h1 h2, fun a b c h1 h2 => EM.swo.ntrans a.ser b.ser c.ser h1 h2⟩
set_option maxHeartbeats 1000000 in
theorem psort_any (blk off cap : Nat) (d ys : List PO.Pos) (w : World) (hH : HoldsK posV 6 w blk off d.toArray) (hblk : blk < w.heap.size) (hsz : d.length < 4611686018427387904) (hp : d.Perm ys) (hy : PO.ascP ys) :
    Calls Try.prog 95 #[.slice (some ⟨blk, off, none⟩) d.length cap, .func (.func 89) #[] #[]] w fun e w' =>
      e = .returned (.tuple #[]) ∧ ∃ n os, w' = sortWorldK posV 6 w blk off n ys.toArray os := by
  have eg : ∀ args w, (callFunc 89 args).run Try.prog w = .ok (.enter 89 args) w := enters_of Try.func89 (by kernel_rfl) rfl
  have hcl : CmpLays Try.prog 89 #[] posV 6 pcmp blk off d.toArray.size w := fun m os dk hs x y => pcmp_any x y _
  have hcon := AnyQ.slices_SortFunc Try.sortP 6 Try.isAgg46 Try.sizeOf46 posV (fun _ => rfl) (fun x v hv => posV_one [x] (posV x) (by simp) v hv) pcmp pswo 89 #[] blk off cap d.toArray w eg hcl hH hblk (by simpa using hsz)
  rw [ltOf_pcmp] at hcon
  change Calls Try.prog 95 _ _ _ at hcon
  refine Calls.mono (by simpa using hcon) ?_
  rintro e w' ⟨he, d', hP, hS, n, os, hw⟩
  refine ⟨he, n, os, ?_⟩
  obtain ⟨hs1, _, hperm⟩ := hP
  have e1 : d'.extract 0 d.length = d' := by
    have : d.length = d'.size := by simpa using hs1.symm
    rw [this]; exact Array.extract_size
  have e2 : d.toArray.extract 0 d.length = d.toArray := by
    have : d.length = d.toArray.size := by simp
    rw [this]; exact Array.extract_size
  rw [e1, e2] at hperm
  have hp2 : d'.toList.Perm ys := (by simpa using hperm : d'.toList.Perm d).trans hp
  have hu : d'.toList = ys := PO.sort_unique hp2 hy (fun i j hi hj hij => by
    have hi' : i < d'.size := by simpa using hi
    have hj' : j < d'.size := by simpa using hj
    have := hS i j (Nat.zero_le _) hij (by have : d'.size = d.length := by simpa using hs1
                                           omega)
    rw [getElem!_pos d' j hj', getElem!_pos d' i hi'] at this
    intro h
    have h2 : pltB d'[j] d'[i] = true := EM.ltB_true.2 (by simpa using h)
    rw [h2] at this
    cases this)
  rw [hw, ← hu]
end Go.Proofs.Ytdhkflmodcgooaa

/- Contracts of layer 15: a map's positions in order. -/
namespace Go.Proofs.Ytdhkflmodcgooaa
open Go.RowKit Go.Recs Go.Shelf Go.Sort
set_option linter.unusedVariables false
set_option linter.unusedSimpArgs false
set_option maxHeartbeats 1000000 in
theorem pvalues_any (b : Nat) (w : World) : Calls Try.prog 88 #[.map (some b)] w fun e w' => e = .returned (.func (.func 96) #[] #[.pointer (some ⟨w.heap.size, 0, none⟩)]) ∧ w.alloc (.cells #[.map (some b)] 97) = w' := by
  have hmf : ∀ (xs : Array Value), xs.map id = xs := by simp
  go_enter Try.func88, Try.ntmps88
  go_wp2_with fail
  go_ret
  exact ⟨rfl, rfl⟩
theorem pappend_any (Bm b nn : Nat) (D : DataW Unit) (ps : List PO.Pos) (hS : PSays D ps) (hl : ps.length ≤ 1000) (w : World) (hBm : Bm < w.heap.size)
    (hm : w.cell? ⟨Bm, 0, none⟩ = some (.map (some b))) (hown : w.ownsMap Try.prog 44 posElem b nn D) :
    Calls Try.prog 98 #[.slice none 0 0, .func (.func 96) #[] #[.pointer (some ⟨Bm, 0, none⟩)]] w fun e w' =>
      ∃ (v : Value) (xs : List PO.Pos), e = .returned v ∧ xs.Perm ps ∧ OwnR w' w.heap.size 46 6 v (xs.map posV) ∧ (v = .slice none 0 0 ↔ xs = []) ∧ Below w.heap.size w w' := by
  refine (callsIn_wide (n := 6)).1 ?_
  exact pappend_in Fence.wide 6 trivial rfl (by omega) 96 _ trivial (enters_of Try.func96 (by kernel_rfl) rfl) (fun xs => xs.Perm ps) ps.length (by omega) w
    (pvalues_stops Fence.wide 5 trivial rfl (by omega) Bm b nn D ps hS w hBm hm hown)
set_option maxHeartbeats 1000000 in
theorem pcollect_any (Bm b nn : Nat) (D : DataW Unit) (ps : List PO.Pos) (hS : PSays D ps) (hl : ps.length ≤ 1000) (w : World) (hBm : Bm < w.heap.size)
    (hm : w.cell? ⟨Bm, 0, none⟩ = some (.map (some b))) (hown : w.ownsMap Try.prog 44 posElem b nn D) :
    Calls Try.prog 94 #[.func (.func 96) #[] #[.pointer (some ⟨Bm, 0, none⟩)]] w fun e w' =>
      ∃ (v : Value) (xs : List PO.Pos), e = .returned v ∧ xs.Perm ps ∧ OwnR w' w.heap.size 46 6 v (xs.map posV) ∧ (v = .slice none 0 0 ↔ xs = []) ∧ Below w.heap.size w w' := by
  have C1 := Lib.hid (pappend_any Bm b nn D ps hS hl w hBm hm hown)
  clear hS hl hBm hm hown
  go_enter Try.func94, Try.ntmps94
  go_wp2_with fail
  refine C1.out.mono ?_
  rintro e w1 ⟨v, xs, rfl, h1, h2, h3, h4⟩
  have H1 := Lib.hid h1; have H2 := Lib.hid h2; have H3 := Lib.hid h3; have H4 := Lib.hid h4
  clear h1 h2 h3 h4
  go_wp2_with fail
  go_ret
  exact ⟨_, xs, rfl, H1.out, H2.out, H3.out, H4.out⟩
theorem pflat_size (l : List PO.Pos) : (flatK posV 6 l.toArray).size = l.length * 6 := by simp [flatK]
theorem pholds_of_own {w : World} {B g n cap : Nat} {l : List PO.Pos} (h : OwnR w B 46 6 (.slice (some ⟨g, 0, none⟩) n cap) (l.map posV)) : HoldsK posV 6 w g 0 l.toArray := by
  intro j hj
  rw [pflat_size] at hj
  have hi : j / 6 < l.length := by omega
  have hc := h.cell (i := j / 6) (j := j % 6) (by rw [List.length_map]; exact hi) (by omega)
  rw [show j / 6 * 6 + j % 6 = j by omega] at hc
  rw [Nat.zero_add]
  refine ⟨?_, ?_⟩
  · rw [hc]
    show _ = some ((flatK posV 6 l.toArray)[j]!)
    rw [get_flatK posV 6 l.toArray j (by simpa using hj)]
    have e1 : (l.map posV).getD (j / 6) [] = posV l[j / 6] := by simp [List.getD, hi]
    have e2 : l.toArray[j / 6]! = l[j / 6] := by simp [hi]
    rw [e1, e2]
    have h4 : j % 6 < (posV l[j / 6]).length := by show j % 6 < 6; omega
    rw [List.getElem?_eq_getElem h4]
    simp [h4]
  · rcases h.2.2 with ⟨e, _⟩ | ⟨g', cap', cur, e, hB, hh, hn, _⟩
    · cases e
    · injection e with e1 e2 e3
      injection e1 with e1
      injection e1 with e1
      subst e1
      simp [World.frozen?, hh]
end Go.Proofs.Ytdhkflmodcgooaa

/- An own row sorted is an own row, over any program. -/
namespace Go.Recs
open Go.RowKit Go.Proofs Go.Sort
set_option linter.unusedVariables false
theorem flat_flatK {α : Type} [Inhabited α] (f : α → List Value) (sz : Nat) (hsz : ∀ x, (f x).length = sz) (ys : List α) {j : Nat} (hj : j < ys.length * sz) :
    some ((flatK f sz ys.toArray)[j]!) = (ys.map f).flatten[j]? := by
  have h0 : 0 < sz := by
    rcases Nat.eq_zero_or_pos sz with h | h
    · rw [h, Nat.mul_zero] at hj; omega
    · exact h
  have hd : j / sz < ys.length := Nat.div_lt_of_lt_mul (by rw [Nat.mul_comm]; exact hj)
  have hm : j % sz < sz := Nat.mod_lt _ h0
  have hr : ∀ r ∈ ys.map f, r.length = sz := by
    intro r hr
    obtain ⟨x, _, rfl⟩ := List.mem_map.1 hr
    exact hsz x
  have e := flat_at hr (j / sz) (j % sz) (by rw [List.length_map]; exact hd) hm
  rw [Nat.mul_comm, Nat.div_add_mod] at e
  rw [e, get_flatK f sz ys.toArray j (by simpa using hj)]
  have e1 : (ys.map f).getD (j / sz) [] = f ys[j / sz] := by simp [List.getD, hd]
  have e2 : ys.toArray[j / sz]! = ys[j / sz] := by simp [hd]
  have h4 : j % sz < (f ys[j / sz]).length := by rw [hsz]; exact hm
  rw [e1, e2, List.getElem?_eq_getElem h4]
  simp [h4]
theorem heap_sorted {α : Type} [Inhabited α] (f : α → List Value) (sz : Nat) {w : World} {g : Nat} {cur : Array Value} {t : TypeId} (hh : w.heap[g]? = some (.cells cur t (0, 0))) (m : Nat) (ys : List α) (os : Array Obj) :
    (sortWorldK f sz w g 0 m ys.toArray os).heap[g]? = some (.cells (putCells id 0 (flatK f sz ys.toArray) cur) t (0, 0)) := by
  have hlt : g < w.heap.size := (Array.getElem?_eq_some_iff.1 hh).1
  show ((w.heap.modify g (onCells (putCells id 0 (flatK f sz ys.toArray)))) ++ os)[g]? = _
  rw [Array.getElem?_append_left (by rw [Array.size_modify]; exact hlt), Array.getElem?_modify, if_pos rfl, hh]
  rfl
theorem OwnR.sorted {α : Type} [Inhabited α] (f : α → List Value) (sz : Nat) (hsz : ∀ x, (f x).length = sz) {w : World} {B g n cap : Nat} {t : TypeId} {l ys : List α} (h : OwnR w B t sz (.slice (some ⟨g, 0, none⟩) n cap) (l.map f)) (hl : ys.length = l.length) (m : Nat) (os : Array Obj) :
    OwnR (sortWorldK f sz w g 0 m ys.toArray os) B t sz (.slice (some ⟨g, 0, none⟩) n cap) (ys.map f) := by
  have hr : ∀ r ∈ ys.map f, r.length = sz := by
    intro r hr
    obtain ⟨x, _, rfl⟩ := List.mem_map.1 hr
    exact hsz x
  obtain ⟨_, h2, h3⟩ := h
  rcases h3 with ⟨e, _⟩ | ⟨g', cap', cur, e, hB, hh, h4, h5, h6, h7⟩
  · cases e
  · injection e with e1 e2 e3
    injection e1 with e1
    injection e1 with e1
    subst e1 e3
    rw [List.length_map] at e2 h4
    have hfl : (ys.map f).flatten.length = ys.length * sz := by rw [flat_len hr, List.length_map]
    refine ⟨hr, by rw [hfl, List.length_map], .inr ⟨g, cap, _, by rw [List.length_map, hl, e2], hB, heap_sorted f sz hh m ys os, by rw [List.length_map, hl]; exact h4, h5, by simp [putCells, h6], ?_⟩⟩
    have hcs : ys.length * sz ≤ cur.size := by rw [h6, hl]; exact Nat.mul_le_mul_right _ h4
    apply List.ext_getElem?
    intro j
    rw [List.length_map]
    rcases Nat.lt_or_ge j (ys.length * sz) with hj | hj
    · rw [← flat_flatK f sz hsz ys hj, List.getElem?_take_of_lt hj, Array.getElem?_toList]
      unfold putCells
      rw [Array.getElem?_mapIdx, Array.getElem?_eq_getElem (by omega)]
      have hc : 0 ≤ j ∧ j < 0 + (flatK f sz ys.toArray).size := ⟨Nat.zero_le _, by rw [size_flatK]; simpa using hj⟩
      simp only [Option.map_some, id_eq, Nat.sub_zero]
      rw [if_pos hc]
    · rw [List.getElem?_eq_none (by rw [List.length_take]; omega), List.getElem?_eq_none (by rw [hfl]; exact hj)]
theorem below_sorted {α : Type} [Inhabited α] (f : α → List Value) (sz : Nat) (w : World) {B g : Nat} (hB : B ≤ g) (hw : B ≤ w.heap.size) (m : Nat) (ys : List α) (os : Array Obj) : Below B w (sortWorldK f sz w g 0 m ys.toArray os) := by
  refine ⟨rfl, rfl, rfl, ?_, fun k hk => ?_⟩
  · show w.heap.size ≤ ((w.heap.modify g _) ++ os).size
    simp
  · show ((w.heap.modify g (onCells (putCells id 0 (flatK f sz ys.toArray)))) ++ os)[k]? = _
    rw [Array.getElem?_append_left (by rw [Array.size_modify]; omega), Array.getElem?_modify, if_neg (by omega)]
end Go.Recs

/- Contracts of layer 15: a map's positions in order. -/
namespace Go.Proofs.Ytdhkflmodcgooaa
open Go.RowKit Go.Recs Go.Shelf Go.Sort
set_option linter.unusedVariables false
set_option linter.unusedSimpArgs false
theorem psort_none (cap : Nat) (w : World) : Calls Try.prog 95 #[.slice none 0 cap, .func (.func 89) #[] #[]] w fun e w' => e = .returned (.tuple #[]) ∧ w' = w := by
  have h := AnyF.slices_SortFunc_none Try.sortP none cap (.func (.func 89) #[] #[]) w
  exact h
set_option maxHeartbeats 2000000 in
theorem psorted_any (Bm b nn : Nat) (D : DataW Unit) (ps ys : List PO.Pos) (hS : PSays D ps) (hl : ps.length ≤ 1000) (hp : ps.Perm ys) (hy : PO.ascP ys) (w : World) (hBm : Bm < w.heap.size)
    (hm : w.cell? ⟨Bm, 0, none⟩ = some (.map (some b))) (hown : w.ownsMap Try.prog 44 posElem b nn D) :
    Calls Try.prog 87 #[.func (.func 96) #[] #[.pointer (some ⟨Bm, 0, none⟩)], .func (.func 89) #[] #[]] w fun e w' =>
      ∃ v, e = .returned v ∧ OwnR w' w.heap.size 46 6 v (ys.map posV) ∧ Below w.heap.size w w' := by
  have C1 := Lib.hid (pcollect_any Bm b nn D ps hS hl w hBm hm hown)
  have HP := Lib.hid hp; have HY := Lib.hid hy; have HL : Hid (ys.length ≤ 1000) := Lib.hid (by rw [← hp.length_eq]; exact hl)
  clear hS hl hBm hm hown hp hy
  go_enter Try.func87, Try.ntmps87
  go_wp2_with fail
  refine C1.out.mono ?_
  rintro e w1 ⟨v, xs, rfl, h1, h2, h3, h4⟩
  have H1 := Lib.hid (h1.trans HP.out); have HB := Lib.hid h4
  rcases h2.form with ⟨rfl, e0⟩ | ⟨g, cap, rfl, hB, hg, hc⟩
  · have hx : xs = [] := by simpa using e0
    have HN : Hid (ys = []) := Lib.hid (by have := H1.out; rw [hx] at this; exact List.nil_perm.1 this)
    have C2 := Lib.hid (fun ww => psort_none 0 ww)
    clear h1 h2 h3 h4 e0 hx
    go_wp2_with fail
    refine (C2.out _).mono ?_
    rintro e w2 ⟨rfl, rfl⟩
    go_wp2_with fail
    go_ret
    exact ⟨_, rfl, by rw [HN.out]; exact OwnR.nil _ _ _ _, HB.out⟩
  · have HO := Lib.hid h2
    have hxl : xs.length = ys.length := H1.out.length_eq
    have hyl := HL.out
    have C2 := Lib.hid (psort_any g 0 cap xs ys w1 (pholds_of_own h2) hg (by omega) H1.out HY.out)
    have HG := Lib.hid hB; have HZ := Lib.hid h4.size
    have HXL := Lib.hid hxl
    rw [List.length_map] at HO ⊢
    clear h1 h2 h3 h4 hc hB hxl hyl
    go_wp2_with fail
    refine C2.out.mono ?_
    rintro e w2 ⟨rfl, n, os, rfl⟩
    have HO2 := Lib.hid (HO.out.sorted posV 6 (fun _ => rfl) HXL.out.symm n os)
    have HB2 := Lib.hid (HB.out.trans (below_sorted posV 6 w1 HG.out HZ.out n ys os))
    generalize sortWorldK posV 6 w1 g 0 n ys.toArray os = w2 at *
    go_wp2_with fail
    go_ret
    exact ⟨_, rfl, HO2.out, HB2.out⟩
set_option maxHeartbeats 2000000 in
theorem plist_any (b nn : Nat) (D : DataW Unit) (ps ys : List PO.Pos) (hS : PSays D ps) (hl : ps.length ≤ 1000) (hp : ps.Perm ys) (hy : PO.ascP ys) (w : World) (hown : w.ownsMap Try.prog 44 posElem b nn D) :
    Calls Try.prog 59 #[.map (some b)] w fun e w' => ∃ v, e = .returned v ∧ OwnR w' w.heap.size 46 6 v (ys.map posV) ∧ Below w.heap.size w w' := by
  have HB0 := Lib.hid (below_al (Below.refl w.heap.size w) (.cells #[.map (some b)] 97))
  have C0 := Lib.hid (fun ww => pvalues_any b ww)
  have C1 := Lib.hid (psorted_any w.heap.size b nn D ps ys hS hl hp hy (w.alloc (.cells #[.map (some b)] 97)) (by simp) ((CB.new w 97 #[.map (some b)]).cell 0) (hown.alloc _))
  clear hS hl hp hy hown
  go_enter Try.func59, Try.ntmps59
  go_wp2_with fail
  refine (C0.out _).mono ?_
  rintro e w1 ⟨rfl, rfl⟩
  generalize w.alloc (.cells #[.map (some b)] 97) = w1 at *
  go_wp2_with fail
  refine C1.out.mono ?_
  rintro e w2 ⟨v, rfl, h1, h2⟩
  have H1 := Lib.hid (h1.lower HB0.out.size); have H2 := Lib.hid (HB0.out.trans (h2.mono HB0.out.size))
  clear h1 h2
  go_wp2_with fail
  go_ret
  exact ⟨_, rfl, H1.out, H2.out⟩
end Go.Proofs.Ytdhkflmodcgooaa

/- Contracts of layer 15: Apply. -/
namespace PO
theorem others_perm {l ps : List Pos} (h : ps.Perm l) (s : EM.Ser) : (others ps s).Perm (others l s) := h.filter _
theorem puts_perm {l ps : List Pos} (h : ps.Perm l) (x : Pos) : (putM ps x).Perm (putsL l x) := by
  unfold putM putsL
  split
  · exact others_perm h _
  · exact ((others_perm h _).cons x).trans (ins_perm x _).symm
theorem find_perm {l ps : List Pos} (h : ps.Perm l) (s : EM.Ser) : (findP l s ∈ ps ∧ (findP l s).ser = s) ∨ (findP l s = ⟨s, 0, 0⟩ ∧ ∀ p ∈ ps, p.ser ≠ s) := by
  rcases find_cases l s with ⟨h1, h2⟩ | ⟨h1, h2⟩
  · exact .inl ⟨h.mem_iff.2 h1, h2⟩
  · exact .inr ⟨h1, fun p hp => h2 p (h.mem_iff.1 hp)⟩
theorem clo_ok {l : List Pos} (hg : ∀ p ∈ l, lotsB p.lo p.sh = true) {kind qty closes : Int} (hl : legE kind qty closes = 0) (s : EM.Ser) :
    (¬ qty = 0 ∧ -1048576 ≤ qty ∧ qty ≤ 1048576) ∧ 0 ≤ cloS kind qty closes (findP l s) ∧ cloS kind qty closes (findP l s) ≤ absI qty := by
  have h1 := find_lots hg s
  unfold legE at hl
  split at hl
  · cases hl
  split at hl
  · cases hl
  rename_i h2
  split at hl
  · cases hl
  rename_i h3
  have ha : 0 ≤ absI qty := by unfold absI; split <;> omega
  have ho : 0 ≤ othS (findP l s) qty := by unfold othS; split <;> omega
  refine ⟨by omega, ?_⟩
  unfold cloS
  split
  · rename_i hk
    have h4 : ¬ (closes < 0 ∨ absI qty < closes) := fun h => h3 ⟨hk, h⟩
    omega
  · omega
theorem chg_q {p : Pos} {qty c : Int} (hp : (0 ≤ p.lo ∧ p.lo ≤ 1048576) ∧ 0 ≤ p.sh ∧ p.sh ≤ 1048576) (c1 : 0 ≤ c) (c2 : c ≤ absI qty) (h : chgE p qty c = 0) :
    (chg p qty c).ser = p.ser ∧ (0 ≤ (chg p qty c).lo ∧ (chg p qty c).lo ≤ 1048576) ∧ 0 ≤ (chg p qty c).sh ∧ (chg p qty c).sh ≤ 1048576 := by
  unfold chgE at h
  split at h
  · cases h
  rename_i h1
  split at h
  · cases h
  rename_i h2
  unfold othS at h1
  unfold ownS at h2
  unfold chg
  split
  · rename_i hq
    rw [if_pos hq] at h1 h2
    exact ⟨rfl, by show 0 ≤ p.lo - c ∧ p.lo - c ≤ 1048576; omega, by show 0 ≤ p.sh + (absI qty - c); omega, by show p.sh + (absI qty - c) ≤ 1048576; omega⟩
  · rename_i hq
    rw [if_neg hq] at h1 h2
    exact ⟨rfl, by show 0 ≤ p.lo + (absI qty - c) ∧ p.lo + (absI qty - c) ≤ 1048576; omega, by show 0 ≤ p.sh - c; omega, by show p.sh - c ≤ 1048576; omega⟩
end PO
namespace Go.Proofs.Ytdhkflmodcgooaa
open Go.RowKit Go.Recs Go.Maps
set_option linter.unusedVariables false
set_option linter.unusedSimpArgs false
theorem grownBy_set (W : World) (p : Addr) (v : Value) : W.grownBy (W.setCell p v) (some p.block) :=
  ⟨rfl, rfl, rfl, (KeepsWalks.setCell W p v).size, fun k _ hk => Below.heap_setCell _ _ _ k (fun e => hk (by rw [e]))⟩
theorem owns_putP {w : World} {k : TypeId} {R : Value → Option (DataW Unit × List MemPlace)} {b n g : Nat} {D : DataW Unit} (h : w.ownsMap Try.prog k R b n D) (hne : b ≠ g) (x : PO.Pos) : (putP w g x).ownsMap Try.prog k R b n D := by
  have one : ∀ {u : World} (i : Nat) (v : Value), u.ownsMap Try.prog k R b n D → (u.setCell ⟨g, i, none⟩ v).ownsMap Try.prog k R b n D := fun i v hu => hu.kept (grownBy_set _ ⟨g, i, none⟩ v) (fun e => hne (by injection e))
  exact one 5 _ (one 4 _ (one 3 _ (one 2 _ (one 1 _ (one 0 _ h)))))
theorem owns_below {w w' : World} {k : TypeId} {R : Value → Option (DataW Unit × List MemPlace)} {b n : Nat} {D : DataW Unit} (h : w.ownsMap Try.prog k R b n D) (hb : Below w.heap.size w w') : w'.ownsMap Try.prog k R b n D :=
  h.kept (row := none) ⟨hb.os, hb.tape, hb.output, hb.size, fun i hi _ => hb.block i hi⟩ (by simp)
set_option maxHeartbeats 4000000 in
set_option maxRecDepth 100000 in
theorem papply_any (A : Option Addr) (l : List PO.Pos) (n cap : Nat) (hn : n = l.length) (kind : Int) (x : NM.Leg) (hx : legQ x) (closes : Int) (w : World) (hI : Poss w A l) :
    Calls Try.prog 29 #[.slice A n cap, .int .i64 kind, legA x, .int .i64 closes] w fun e w' => ∃ v, e = .returned (.tuple #[v, .int .i64 (PO.applyE l kind x.ser x.qty closes)]) ∧ OwnR w' w.heap.size 46 6 v ((PO.applyL l kind x.ser x.qty closes).map posV) ∧ Below w.heap.size w w' := by
  subst hn
  have hlen := hI.len
  have HB0 := Lib.hid (below_al (Below.refl w.heap.size w) (.cells (legC x) 60))
  have HX0 := Lib.hid (CB.new w 60 (legC x))
  have HI0 := Lib.hid (hI.below HB0.out)
  have hser := hx.2.2.1
  have C1 := Lib.hid (fun ww h => pcheck15_any A l l.length cap rfl ww h)
  have C2 := Lib.hid (fun ww => pcheckleg_any kind x.qty closes ww)
  have HQL := Lib.hid hI.2
  clear hI
  by_cases hc : PO.checkE l = 0
  · obtain ⟨hl1, ha, hg⟩ := PO.check_good hc
    rw [hc] at C1
    by_cases hl : PO.legE kind x.qty closes = 0
    · rw [hl] at C2
      obtain ⟨⟨q0, q1, q2⟩, k1, k2⟩ := PO.clo_ok hg hl x.ser
      have hfl := PO.find_lots hg x.ser
      have hfs := PO.find_ser l x.ser
      have C3 := Lib.hid (fun ww h => pindexed_any A l l.length cap rfl hc ww h)
      have C4 := Lib.hid (fun b nn D ps (hp : ps.Perm l) ww hS hw => pfind_any (PO.findP l x.ser) x.ser hser b nn D ps hS (fun p hh => HQL.out p (hp.mem_iff.1 hh)) (PO.find_perm hp x.ser) ww hw)
      have C5 := Lib.hid (fun ww => poffset_any (PO.findP l x.ser) x.qty q0 q1 q2 ww)
      have C6 := Lib.hid (fun ww => pchanged_any (PO.findP l x.ser) x.qty (PO.cloS kind x.qty closes (PO.findP l x.ser)) hfl q0 q1 q2 k1 k2 ww)
      have HG : Hid (¬ PO.chgE (PO.findP l x.ser) x.qty (PO.cloS kind x.qty closes (PO.findP l x.ser)) = 0 → PO.applyE l kind x.ser x.qty closes = PO.chgE (PO.findP l x.ser) x.qty (PO.cloS kind x.qty closes (PO.findP l x.ser)) ∧ PO.applyL l kind x.ser x.qty closes = []) := Lib.hid (fun h => by
        have e : PO.applyE l kind x.ser x.qty closes = PO.chgE (PO.findP l x.ser) x.qty (PO.cloS kind x.qty closes (PO.findP l x.ser)) := by unfold PO.applyE; rw [if_neg (by simp [hc]), if_neg (by simp [hl]), if_pos h]
        exact ⟨e, by unfold PO.applyL; rw [e, if_neg h]⟩)
      have H8 : Hid (PO.chgE (PO.findP l x.ser) x.qty (PO.cloS kind x.qty closes (PO.findP l x.ser)) = 0 → 128 < (PO.putsL l (PO.newP l kind x.ser x.qty closes)).length → PO.applyE l kind x.ser x.qty closes = 8 ∧ PO.applyL l kind x.ser x.qty closes = []) := Lib.hid (fun h h8 => by
        have e : PO.applyE l kind x.ser x.qty closes = 8 := by unfold PO.applyE; rw [if_neg (by simp [hc]), if_neg (by simp [hl]), if_neg (by simp [h]), if_pos h8]
        exact ⟨e, by unfold PO.applyL; rw [e]; rfl⟩)
      have HK : Hid (PO.chgE (PO.findP l x.ser) x.qty (PO.cloS kind x.qty closes (PO.findP l x.ser)) = 0 → ¬ 128 < (PO.putsL l (PO.newP l kind x.ser x.qty closes)).length → PO.applyE l kind x.ser x.qty closes = 0 ∧ PO.applyL l kind x.ser x.qty closes = PO.putsL l (PO.newP l kind x.ser x.qty closes)) := Lib.hid (fun h h8 => by
        have e : PO.applyE l kind x.ser x.qty closes = 0 := by unfold PO.applyE; rw [if_neg (by simp [hc]), if_neg (by simp [hl]), if_neg (by simp [h]), if_neg h8]
        exact ⟨e, by unfold PO.applyL; rw [if_pos e]⟩)
      have HN : Hid (PO.newP l kind x.ser x.qty closes = PO.chg (PO.findP l x.ser) x.qty (PO.cloS kind x.qty closes (PO.findP l x.ser))) := Lib.hid rfl
      have HNQ : Hid (PO.chgE (PO.findP l x.ser) x.qty (PO.cloS kind x.qty closes (PO.findP l x.ser)) = 0 → posQ (PO.newP l kind x.ser x.qty closes)) := Lib.hid (fun h => by
        obtain ⟨e1, e2, e3, e4⟩ := PO.chg_q hfl k1 k2 h
        rw [← HN.out] at e1 e2 e3 e4
        exact ⟨by rw [e1, hfs]; exact hser, ⟨by omega, by omega⟩, ⟨by omega, by omega⟩⟩)
      have HAS : Hid (PO.ascP (PO.putsL l (PO.newP l kind x.ser x.qty closes))) := Lib.hid (PO.puts_asc ha _)
      have HPL : Hid (∀ ps : List PO.Pos, ps.Perm l → (PO.putM ps (PO.newP l kind x.ser x.qty closes)).Perm (PO.putsL l (PO.newP l kind x.ser x.qty closes))) := Lib.hid (fun ps h => PO.puts_perm h _)
      have HCL : Hid ((¬ kind = 3 → PO.cloS kind x.qty closes (PO.findP l x.ser) = min (PO.absI x.qty) (PO.othS (PO.findP l x.ser) x.qty)) ∧ (kind = 3 → PO.cloS kind x.qty closes (PO.findP l x.ser) = closes)) := Lib.hid ⟨fun h => by unfold PO.cloS; rw [if_neg h], fun h => by unfold PO.cloS; rw [if_pos h]⟩
      generalize PO.applyE l kind x.ser x.qty closes = ae at *
      generalize PO.applyL l kind x.ser x.qty closes = al at *
      generalize PO.newP l kind x.ser x.qty closes = np at *
      generalize PO.cloS kind x.qty closes (PO.findP l x.ser) = cl at *
      generalize PO.chgE (PO.findP l x.ser) x.qty cl = ce at *
      rw [← HN.out] at C6
      generalize PO.findP l x.ser = fp at *
      generalize PO.putsL l np = pl at *
      clear hc hl ha hg HN hfl hfs
      go_enter Try.func29, Try.ntmps29
      go_wp2_with fail
      generalize w.alloc (.cells #[.string x.am, .string x.an, .string x.ser.prod, .int .i64 x.ser.kind, .int .i64 x.ser.expiry, .int .i64 x.ser.strike, .int .i64 x.qty, .int .i64 x.price, .int .i64 x.trade] 60) = w0 at *
      refine (C1.out _ HI0.out).mono ?_
      rintro e w1 ⟨rfl, b1⟩
      have HB1 := Lib.hid (HB0.out.trans (b1.mono HB0.out.size))
      have HI1 := Lib.hid (HI0.out.below b1)
      have HX1 := Lib.hid (HX0.out.below b1 HX0.out.lt)
      have x6 : w1.cell? ⟨w.heap.size, 6, none⟩ = some (.int .i64 x.qty) := HX1.out.cell 6
      have xl1 := HX1.out.lt
      clear b1 HB0 HI0 HX0 C1
      go_wp2_with fail
      refine (C2.out _).mono ?_
      rintro e w2 ⟨rfl, rfl⟩
      go_wp2_with fail
      refine (C3.out _ HI1.out).mono ?_
      rintro e w2 ⟨rfl, ⟨D, ps, hm, hS, hP⟩, b2⟩
      have HB2 := Lib.hid (HB1.out.trans (b2.mono HB1.out.size))
      have HX2 := Lib.hid (HX1.out.below b2 HX1.out.lt)
      have HM2 := Lib.hid hm; have HS2 := Lib.hid hS; have HP2 := Lib.hid hP
      have HLE : Hid (w.heap.size ≤ w1.heap.size) := Lib.hid HB1.out.size
      have C4b := Lib.hid (C4.out _ _ D ps hP w2 hS hm)
      have x2 : w2.cell? ⟨w.heap.size, 2, none⟩ = some (.string x.ser.prod) := HX2.out.cell 2
      have x3 : w2.cell? ⟨w.heap.size, 3, none⟩ = some (.int .i64 x.ser.kind) := HX2.out.cell 3
      have x4 : w2.cell? ⟨w.heap.size, 4, none⟩ = some (.int .i64 x.ser.expiry) := HX2.out.cell 4
      have x5 : w2.cell? ⟨w.heap.size, 5, none⟩ = some (.int .i64 x.ser.strike) := HX2.out.cell 5
      have xl2 := HX2.out.lt
      clear b2 hm hS hP HX1 HI1 x6 xl1 C2 C3 C4
      generalize hbk : w1.heap.size = bk at *
      clear hbk
      go_wp2_with fail
      refine C4b.out.mono ?_
      clear x2 x3 x4 x5 xl2
      rintro e w3 ⟨rfl, b3⟩
      have HB3 := Lib.hid (HB2.out.trans (b3.mono HB2.out.size))
      have HX2b := Lib.hid (HX2.out.below b3 HX2.out.lt)
      have HX4 := Lib.hid ((HX2.out.below b3 HX2.out.lt).alloc (.cells (posC fp) 46))
      have HM4 := Lib.hid ((owns_below HM2.out b3).alloc (.cells (posC fp) 46))
      have HF4 := Lib.hid (CB.new w3 46 (posC fp))
      have HB4 := Lib.hid (below_al HB3.out (.cells (posC fp) 46))
      have HLT3 : Hid (w2.heap.size ≤ w3.heap.size) := Lib.hid b3.size
      clear b3 C4b
      have HGB : Hid (bk ≠ w3.heap.size) := Lib.hid (by have := HM2.out.lt; have := HLT3.out; omega)
      have HGG : Hid (w.heap.size ≤ w3.heap.size) := Lib.hid HB3.out.size
      by_cases k3 : kind = 3
      · have c3 : (kind != 3) = false := by simp [k3]
        have hcl : cl = closes := HCL.out.2 k3
        rw [hcl] at C6
        clear k3 hcl HCL C5
        go_upto_region 11 with fail
        generalize w3.alloc (.cells #[.string fp.ser.prod, .int .i64 fp.ser.kind, .int .i64 fp.ser.expiry, .int .i64 fp.ser.strike, .int .i64 fp.lo, .int .i64 fp.sh] 46) = w4 at *
        generalize w3.heap.size = g at *
        have hg4 : w4.cell? ⟨w.heap.size, 6, none⟩ = some (.int .i64 x.qty) := HX4.out.cell 6
        have xl4 := HX4.out.lt
        have gl4 := HF4.out.lt
        have a0 : w4.cell? ⟨g, 0, none⟩ = some (.string fp.ser.prod) := HF4.out.cell 0
        have a1 : w4.cell? ⟨g, 1, none⟩ = some (.int .i64 fp.ser.kind) := HF4.out.cell 1
        have a2 : w4.cell? ⟨g, 2, none⟩ = some (.int .i64 fp.ser.expiry) := HF4.out.cell 2
        have a3 : w4.cell? ⟨g, 3, none⟩ = some (.int .i64 fp.ser.strike) := HF4.out.cell 3
        have a4 : w4.cell? ⟨g, 4, none⟩ = some (.int .i64 fp.lo) := HF4.out.cell 4
        have a5 : w4.cell? ⟨g, 5, none⟩ = some (.int .i64 fp.sh) := HF4.out.cell 5
        by_cases hce : ce = 0
        · subst hce
          have HQN := Lib.hid (HNQ.out (by first | rfl | trivial))
          have C6b := Lib.hid (fun ww => C6.out ww)
          rw [if_pos rfl] at C6b
          go_wp2_with fail
          refine (C6b.out _).mono ?_
          rintro e w6 ⟨rfl, b6⟩
          have HB6 := Lib.hid (HB4.out.trans (b6.mono HB4.out.size))
          have HM6 := Lib.hid (owns_below HM4.out b6)
          have HF6 := Lib.hid (HF4.out.below b6 HF4.out.lt)
          have HF7 : Hid (CB ((((((w6.setCell ⟨g, 0, none⟩ (.string np.ser.prod)).setCell ⟨g, 1, none⟩ (.int .i64 np.ser.kind)).setCell ⟨g, 2, none⟩ (.int .i64 np.ser.expiry)).setCell ⟨g, 3, none⟩ (.int .i64 np.ser.strike)).setCell ⟨g, 4, none⟩ (.int .i64 np.lo)).setCell ⟨g, 5, none⟩ (.int .i64 np.sh)) g 46 (posC np)) := Lib.hid (HF6.out.putP np)
          have HM7 : Hid (((((((w6.setCell ⟨g, 0, none⟩ (.string np.ser.prod)).setCell ⟨g, 1, none⟩ (.int .i64 np.ser.kind)).setCell ⟨g, 2, none⟩ (.int .i64 np.ser.expiry)).setCell ⟨g, 3, none⟩ (.int .i64 np.ser.strike)).setCell ⟨g, 4, none⟩ (.int .i64 np.lo)).setCell ⟨g, 5, none⟩ (.int .i64 np.sh)).ownsMap Try.prog 44 posElem bk l.length D) := Lib.hid (owns_putP HM6.out HGB.out np)
          have HB7 : Hid (Below w.heap.size w ((((((w6.setCell ⟨g, 0, none⟩ (.string np.ser.prod)).setCell ⟨g, 1, none⟩ (.int .i64 np.ser.kind)).setCell ⟨g, 2, none⟩ (.int .i64 np.ser.expiry)).setCell ⟨g, 3, none⟩ (.int .i64 np.ser.strike)).setCell ⟨g, 4, none⟩ (.int .i64 np.lo)).setCell ⟨g, 5, none⟩ (.int .i64 np.sh))) := Lib.hid (putP_below HB6.out HGG.out np)
          clear b6 hg4 xl4 gl4 a0 a1 a2 a3 a4 a5
          have b0 : w6.cell? ⟨g, 0, none⟩ = some (.string fp.ser.prod) := HF6.out.cell 0
          have b1 : w6.cell? ⟨g, 1, none⟩ = some (.int .i64 fp.ser.kind) := HF6.out.cell 1
          have b2 : w6.cell? ⟨g, 2, none⟩ = some (.int .i64 fp.ser.expiry) := HF6.out.cell 2
          have b3 : w6.cell? ⟨g, 3, none⟩ = some (.int .i64 fp.ser.strike) := HF6.out.cell 3
          have b4 : w6.cell? ⟨g, 4, none⟩ = some (.int .i64 fp.lo) := HF6.out.cell 4
          have b5 : w6.cell? ⟨g, 5, none⟩ = some (.int .i64 fp.sh) := HF6.out.cell 5
          have c0 := HF6.out.frozen 0
          have c1 := HF6.out.frozen 1
          have c2 := HF6.out.frozen 2
          have c3 := HF6.out.frozen 3
          have c4 := HF6.out.frozen 4
          have c5 := HF6.out.frozen 5
          have gl6 := HF6.out.lt
          go_upto_region 14 with fail
          generalize (((((w6.setCell ⟨g, 0, none⟩ (.string np.ser.prod)).setCell ⟨g, 1, none⟩ (.int .i64 np.ser.kind)).setCell ⟨g, 2, none⟩ (.int .i64 np.ser.expiry)).setCell ⟨g, 3, none⟩ (.int .i64 np.ser.strike)).setCell ⟨g, 4, none⟩ (.int .i64 np.lo)).setCell ⟨g, 5, none⟩ (.int .i64 np.sh) = w7 at *
          clear b0 b1 b2 b3 b4 b5 c0 c1 c2 c3 c4 c5 gl6 HF6 HM6 HB6
          have d0 : w7.cell? ⟨g, 0, none⟩ = some (.string np.ser.prod) := HF7.out.cell 0
          have d1 : w7.cell? ⟨g, 1, none⟩ = some (.int .i64 np.ser.kind) := HF7.out.cell 1
          have d2 : w7.cell? ⟨g, 2, none⟩ = some (.int .i64 np.ser.expiry) := HF7.out.cell 2
          have d3 : w7.cell? ⟨g, 3, none⟩ = some (.int .i64 np.ser.strike) := HF7.out.cell 3
          have d4 : w7.cell? ⟨g, 4, none⟩ = some (.int .i64 np.lo) := HF7.out.cell 4
          have d5 : w7.cell? ⟨g, 5, none⟩ = some (.int .i64 np.sh) := HF7.out.cell 5
          have gl7 := HF7.out.lt
          have C7 := Lib.hid (pput_any np HQN.out bk l.length D ps HS2.out (fun p hh => HQL.out p (HP2.out.mem_iff.1 hh)) (by omega) w7 HM7.out)
          go_wp2_with fail
          refine C7.out.mono ?_
          clear d0 d1 d2 d3 d4 d5 gl7
          rintro e w8 ⟨rfl, ⟨D8, hm8, hs8⟩, hb8⟩
          have HM8 := Lib.hid hm8
          have HB8 := Lib.hid (HB7.out.trans (hb8 w.heap.size HLE.out))
          have HSZ : Hid (Maps.size D8 = pl.length) := Lib.hid (by rw [MG.Says.size_ hs8 (hm8.canon (Keyed.of_law ser_law)), (HPL.out ps HP2.out).length_eq])
          have HLM : Hid ((PO.putM ps np).length = pl.length) := Lib.hid (HPL.out ps HP2.out).length_eq
          by_cases h8 : 128 < pl.length
          · have HR := Lib.hid (H8.out (by first | rfl | trivial) h8)
            have hsz : (128 : Int) < ((Maps.size D8 : Nat) : Int) := by rw [HSZ.out]; omega
            clear hm8 hs8 hb8 C7 h8
            go_wp2_with (at_len; refine wpList_len_own _ rfl _ 97 rfl 44 46 bySer_under posElem bk _ _ rfl HM8.out ?_)
            go_ret2
            exact ⟨_, by rw [HR.out.1] <;> rfl, by rw [HR.out.2]; exact OwnR.nil _ _ _ _, HB8.out⟩
          · have HR := Lib.hid (HK.out (by first | rfl | trivial) h8)
            have hsz : ¬ (128 : Int) < ((Maps.size D8 : Nat) : Int) := by rw [HSZ.out]; omega
            have C9 := Lib.hid (plist_any bk _ D8 _ pl hs8 (by rw [HLM.out]; omega) (HPL.out ps HP2.out) HAS.out w8 hm8)
            clear hm8 hs8 hb8 C7 h8
            go_wp2_with (at_len; refine wpList_len_own _ rfl _ 97 rfl 44 46 bySer_under posElem bk _ _ rfl HM8.out ?_)
            refine C9.out.mono ?_
            rintro e w9 ⟨v, rfl, h1, h2⟩
            have H1 := Lib.hid (h1.lower HB8.out.size); have H2 := Lib.hid (HB8.out.trans (h2.mono HB8.out.size))
            clear h1 h2
            go_wp2_with fail
            go_ret2
            exact ⟨_, by rw [HR.out.1] <;> rfl, by rw [HR.out.2]; exact H1.out, H2.out⟩
        · have HR := Lib.hid (HG.out hce)
          have C6b := Lib.hid (fun ww => C6.out ww)
          rw [if_neg hce] at C6b
          have hne : (ce != 0) = true := by simpa using hce
          clear hce
          go_wp2_with fail
          refine (C6b.out _).mono ?_
          rintro e w6 ⟨rfl, b6⟩
          have HB6 := Lib.hid (HB4.out.trans (b6.mono HB4.out.size))
          have HF6 := Lib.hid (HF4.out.below b6 HF4.out.lt)
          have HB7 : Hid (Below w.heap.size w ((((((w6.setCell ⟨g, 0, none⟩ (.string PO.zero.ser.prod)).setCell ⟨g, 1, none⟩ (.int .i64 PO.zero.ser.kind)).setCell ⟨g, 2, none⟩ (.int .i64 PO.zero.ser.expiry)).setCell ⟨g, 3, none⟩ (.int .i64 PO.zero.ser.strike)).setCell ⟨g, 4, none⟩ (.int .i64 PO.zero.lo)).setCell ⟨g, 5, none⟩ (.int .i64 PO.zero.sh))) := Lib.hid (putP_below HB6.out HGG.out PO.zero)
          clear b6 hg4 xl4 gl4 a0 a1 a2 a3 a4 a5
          have b0 : w6.cell? ⟨g, 0, none⟩ = some (.string fp.ser.prod) := HF6.out.cell 0
          have b1 : w6.cell? ⟨g, 1, none⟩ = some (.int .i64 fp.ser.kind) := HF6.out.cell 1
          have b2 : w6.cell? ⟨g, 2, none⟩ = some (.int .i64 fp.ser.expiry) := HF6.out.cell 2
          have b3 : w6.cell? ⟨g, 3, none⟩ = some (.int .i64 fp.ser.strike) := HF6.out.cell 3
          have b4 : w6.cell? ⟨g, 4, none⟩ = some (.int .i64 fp.lo) := HF6.out.cell 4
          have b5 : w6.cell? ⟨g, 5, none⟩ = some (.int .i64 fp.sh) := HF6.out.cell 5
          have c0 := HF6.out.frozen 0
          have c1 := HF6.out.frozen 1
          have c2 := HF6.out.frozen 2
          have c3 := HF6.out.frozen 3
          have c4 := HF6.out.frozen 4
          have c5 := HF6.out.frozen 5
          have gl6 := HF6.out.lt
          go_upto_region 12 with fail
          generalize (((((w6.setCell ⟨g, 0, none⟩ (.string PO.zero.ser.prod)).setCell ⟨g, 1, none⟩ (.int .i64 PO.zero.ser.kind)).setCell ⟨g, 2, none⟩ (.int .i64 PO.zero.ser.expiry)).setCell ⟨g, 3, none⟩ (.int .i64 PO.zero.ser.strike)).setCell ⟨g, 4, none⟩ (.int .i64 PO.zero.lo)).setCell ⟨g, 5, none⟩ (.int .i64 PO.zero.sh) = w7 at *
          clear b0 b1 b2 b3 b4 b5 c0 c1 c2 c3 c4 c5 gl6 HF6 HB6
          go_wp2_with fail
          go_ret2
          exact ⟨_, by rw [HR.out.1] <;> rfl, by rw [HR.out.2]; exact OwnR.nil _ _ _ _, HB7.out⟩
      · have c3 : (kind != 3) = true := by simpa using k3
        have hcl := HCL.out.1 k3
        rw [hcl] at C6
        have hh6 : w3.cell? ⟨w.heap.size, 6, none⟩ = some (.int .i64 x.qty) := HX2b.out.cell 6
        have hhl := HX2b.out.lt
        clear k3 hcl HCL
        go_wp2_with fail
        generalize w3.alloc (.cells #[.string fp.ser.prod, .int .i64 fp.ser.kind, .int .i64 fp.ser.expiry, .int .i64 fp.ser.strike, .int .i64 fp.lo, .int .i64 fp.sh] 46) = w4 at *
        clear hh6 hhl
        generalize w3.heap.size = g at *
        refine (C5.out _).mono ?_
        rintro e w5 ⟨rfl, b5⟩
        have HX5 := Lib.hid (HX4.out.below b5 HX4.out.lt)
        have HM5 := Lib.hid (owns_below HM4.out b5)
        have HF5 := Lib.hid (HF4.out.below b5 HF4.out.lt)
        have HB5 := Lib.hid (HB4.out.trans (b5.mono HB4.out.size))
        clear b5
        have hg5 : w5.cell? ⟨w.heap.size, 6, none⟩ = some (.int .i64 x.qty) := HX5.out.cell 6
        have xl5 := HX5.out.lt
        have gl5 := HF5.out.lt
        have a0 : w5.cell? ⟨g, 0, none⟩ = some (.string fp.ser.prod) := HF5.out.cell 0
        have a1 : w5.cell? ⟨g, 1, none⟩ = some (.int .i64 fp.ser.kind) := HF5.out.cell 1
        have a2 : w5.cell? ⟨g, 2, none⟩ = some (.int .i64 fp.ser.expiry) := HF5.out.cell 2
        have a3 : w5.cell? ⟨g, 3, none⟩ = some (.int .i64 fp.ser.strike) := HF5.out.cell 3
        have a4 : w5.cell? ⟨g, 4, none⟩ = some (.int .i64 fp.lo) := HF5.out.cell 4
        have a5 : w5.cell? ⟨g, 5, none⟩ = some (.int .i64 fp.sh) := HF5.out.cell 5
        by_cases hce : ce = 0
        · subst hce
          have HQN := Lib.hid (HNQ.out (by first | rfl | trivial))
          have C6b := Lib.hid (fun ww => C6.out ww)
          rw [if_pos rfl] at C6b
          go_wp2_with fail
          refine (C6b.out _).mono ?_
          rintro e w6 ⟨rfl, b6⟩
          have HB6 := Lib.hid (HB5.out.trans (b6.mono HB5.out.size))
          have HM6 := Lib.hid (owns_below HM5.out b6)
          have HF6 := Lib.hid (HF5.out.below b6 HF5.out.lt)
          have HF7 : Hid (CB ((((((w6.setCell ⟨g, 0, none⟩ (.string np.ser.prod)).setCell ⟨g, 1, none⟩ (.int .i64 np.ser.kind)).setCell ⟨g, 2, none⟩ (.int .i64 np.ser.expiry)).setCell ⟨g, 3, none⟩ (.int .i64 np.ser.strike)).setCell ⟨g, 4, none⟩ (.int .i64 np.lo)).setCell ⟨g, 5, none⟩ (.int .i64 np.sh)) g 46 (posC np)) := Lib.hid (HF6.out.putP np)
          have HM7 : Hid (((((((w6.setCell ⟨g, 0, none⟩ (.string np.ser.prod)).setCell ⟨g, 1, none⟩ (.int .i64 np.ser.kind)).setCell ⟨g, 2, none⟩ (.int .i64 np.ser.expiry)).setCell ⟨g, 3, none⟩ (.int .i64 np.ser.strike)).setCell ⟨g, 4, none⟩ (.int .i64 np.lo)).setCell ⟨g, 5, none⟩ (.int .i64 np.sh)).ownsMap Try.prog 44 posElem bk l.length D) := Lib.hid (owns_putP HM6.out HGB.out np)
          have HB7 : Hid (Below w.heap.size w ((((((w6.setCell ⟨g, 0, none⟩ (.string np.ser.prod)).setCell ⟨g, 1, none⟩ (.int .i64 np.ser.kind)).setCell ⟨g, 2, none⟩ (.int .i64 np.ser.expiry)).setCell ⟨g, 3, none⟩ (.int .i64 np.ser.strike)).setCell ⟨g, 4, none⟩ (.int .i64 np.lo)).setCell ⟨g, 5, none⟩ (.int .i64 np.sh))) := Lib.hid (putP_below HB6.out HGG.out np)
          clear b6 hg5 xl5 gl5 a0 a1 a2 a3 a4 a5
          have b0 : w6.cell? ⟨g, 0, none⟩ = some (.string fp.ser.prod) := HF6.out.cell 0
          have b1 : w6.cell? ⟨g, 1, none⟩ = some (.int .i64 fp.ser.kind) := HF6.out.cell 1
          have b2 : w6.cell? ⟨g, 2, none⟩ = some (.int .i64 fp.ser.expiry) := HF6.out.cell 2
          have b3 : w6.cell? ⟨g, 3, none⟩ = some (.int .i64 fp.ser.strike) := HF6.out.cell 3
          have b4 : w6.cell? ⟨g, 4, none⟩ = some (.int .i64 fp.lo) := HF6.out.cell 4
          have b5 : w6.cell? ⟨g, 5, none⟩ = some (.int .i64 fp.sh) := HF6.out.cell 5
          have c0 := HF6.out.frozen 0
          have c1 := HF6.out.frozen 1
          have c2 := HF6.out.frozen 2
          have c3 := HF6.out.frozen 3
          have c4 := HF6.out.frozen 4
          have c5 := HF6.out.frozen 5
          have gl6 := HF6.out.lt
          go_upto_region 14 with fail
          generalize (((((w6.setCell ⟨g, 0, none⟩ (.string np.ser.prod)).setCell ⟨g, 1, none⟩ (.int .i64 np.ser.kind)).setCell ⟨g, 2, none⟩ (.int .i64 np.ser.expiry)).setCell ⟨g, 3, none⟩ (.int .i64 np.ser.strike)).setCell ⟨g, 4, none⟩ (.int .i64 np.lo)).setCell ⟨g, 5, none⟩ (.int .i64 np.sh) = w7 at *
          clear b0 b1 b2 b3 b4 b5 c0 c1 c2 c3 c4 c5 gl6 HF6 HM6 HB6
          have d0 : w7.cell? ⟨g, 0, none⟩ = some (.string np.ser.prod) := HF7.out.cell 0
          have d1 : w7.cell? ⟨g, 1, none⟩ = some (.int .i64 np.ser.kind) := HF7.out.cell 1
          have d2 : w7.cell? ⟨g, 2, none⟩ = some (.int .i64 np.ser.expiry) := HF7.out.cell 2
          have d3 : w7.cell? ⟨g, 3, none⟩ = some (.int .i64 np.ser.strike) := HF7.out.cell 3
          have d4 : w7.cell? ⟨g, 4, none⟩ = some (.int .i64 np.lo) := HF7.out.cell 4
          have d5 : w7.cell? ⟨g, 5, none⟩ = some (.int .i64 np.sh) := HF7.out.cell 5
          have gl7 := HF7.out.lt
          have C7 := Lib.hid (pput_any np HQN.out bk l.length D ps HS2.out (fun p hh => HQL.out p (HP2.out.mem_iff.1 hh)) (by omega) w7 HM7.out)
          go_wp2_with fail
          refine C7.out.mono ?_
          clear d0 d1 d2 d3 d4 d5 gl7
          rintro e w8 ⟨rfl, ⟨D8, hm8, hs8⟩, hb8⟩
          have HM8 := Lib.hid hm8
          have HB8 := Lib.hid (HB7.out.trans (hb8 w.heap.size HLE.out))
          have HSZ : Hid (Maps.size D8 = pl.length) := Lib.hid (by rw [MG.Says.size_ hs8 (hm8.canon (Keyed.of_law ser_law)), (HPL.out ps HP2.out).length_eq])
          have HLM : Hid ((PO.putM ps np).length = pl.length) := Lib.hid (HPL.out ps HP2.out).length_eq
          by_cases h8 : 128 < pl.length
          · have HR := Lib.hid (H8.out (by first | rfl | trivial) h8)
            have hsz : (128 : Int) < ((Maps.size D8 : Nat) : Int) := by rw [HSZ.out]; omega
            clear hm8 hs8 hb8 C7 h8
            go_wp2_with (at_len; refine wpList_len_own _ rfl _ 97 rfl 44 46 bySer_under posElem bk _ _ rfl HM8.out ?_)
            go_ret2
            exact ⟨_, by rw [HR.out.1] <;> rfl, by rw [HR.out.2]; exact OwnR.nil _ _ _ _, HB8.out⟩
          · have HR := Lib.hid (HK.out (by first | rfl | trivial) h8)
            have hsz : ¬ (128 : Int) < ((Maps.size D8 : Nat) : Int) := by rw [HSZ.out]; omega
            have C9 := Lib.hid (plist_any bk _ D8 _ pl hs8 (by rw [HLM.out]; omega) (HPL.out ps HP2.out) HAS.out w8 hm8)
            clear hm8 hs8 hb8 C7 h8
            go_wp2_with (at_len; refine wpList_len_own _ rfl _ 97 rfl 44 46 bySer_under posElem bk _ _ rfl HM8.out ?_)
            refine C9.out.mono ?_
            rintro e w9 ⟨v, rfl, h1, h2⟩
            have H1 := Lib.hid (h1.lower HB8.out.size); have H2 := Lib.hid (HB8.out.trans (h2.mono HB8.out.size))
            clear h1 h2
            go_wp2_with fail
            go_ret2
            exact ⟨_, by rw [HR.out.1] <;> rfl, by rw [HR.out.2]; exact H1.out, H2.out⟩
        · have HR := Lib.hid (HG.out hce)
          have C6b := Lib.hid (fun ww => C6.out ww)
          rw [if_neg hce] at C6b
          have hne : (ce != 0) = true := by simpa using hce
          clear hce
          go_wp2_with fail
          refine (C6b.out _).mono ?_
          rintro e w6 ⟨rfl, b6⟩
          have HB6 := Lib.hid (HB5.out.trans (b6.mono HB5.out.size))
          have HF6 := Lib.hid (HF5.out.below b6 HF5.out.lt)
          have HB7 : Hid (Below w.heap.size w ((((((w6.setCell ⟨g, 0, none⟩ (.string PO.zero.ser.prod)).setCell ⟨g, 1, none⟩ (.int .i64 PO.zero.ser.kind)).setCell ⟨g, 2, none⟩ (.int .i64 PO.zero.ser.expiry)).setCell ⟨g, 3, none⟩ (.int .i64 PO.zero.ser.strike)).setCell ⟨g, 4, none⟩ (.int .i64 PO.zero.lo)).setCell ⟨g, 5, none⟩ (.int .i64 PO.zero.sh))) := Lib.hid (putP_below HB6.out HGG.out PO.zero)
          clear b6 hg5 xl5 gl5 a0 a1 a2 a3 a4 a5
          have b0 : w6.cell? ⟨g, 0, none⟩ = some (.string fp.ser.prod) := HF6.out.cell 0
          have b1 : w6.cell? ⟨g, 1, none⟩ = some (.int .i64 fp.ser.kind) := HF6.out.cell 1
          have b2 : w6.cell? ⟨g, 2, none⟩ = some (.int .i64 fp.ser.expiry) := HF6.out.cell 2
          have b3 : w6.cell? ⟨g, 3, none⟩ = some (.int .i64 fp.ser.strike) := HF6.out.cell 3
          have b4 : w6.cell? ⟨g, 4, none⟩ = some (.int .i64 fp.lo) := HF6.out.cell 4
          have b5 : w6.cell? ⟨g, 5, none⟩ = some (.int .i64 fp.sh) := HF6.out.cell 5
          have c0 := HF6.out.frozen 0
          have c1 := HF6.out.frozen 1
          have c2 := HF6.out.frozen 2
          have c3 := HF6.out.frozen 3
          have c4 := HF6.out.frozen 4
          have c5 := HF6.out.frozen 5
          have gl6 := HF6.out.lt
          go_upto_region 12 with fail
          generalize (((((w6.setCell ⟨g, 0, none⟩ (.string PO.zero.ser.prod)).setCell ⟨g, 1, none⟩ (.int .i64 PO.zero.ser.kind)).setCell ⟨g, 2, none⟩ (.int .i64 PO.zero.ser.expiry)).setCell ⟨g, 3, none⟩ (.int .i64 PO.zero.ser.strike)).setCell ⟨g, 4, none⟩ (.int .i64 PO.zero.lo)).setCell ⟨g, 5, none⟩ (.int .i64 PO.zero.sh) = w7 at *
          clear b0 b1 b2 b3 b4 b5 c0 c1 c2 c3 c4 c5 gl6 HF6 HB6
          go_wp2_with fail
          go_ret2
          exact ⟨_, by rw [HR.out.1] <;> rfl, by rw [HR.out.2]; exact OwnR.nil _ _ _ _, HB7.out⟩
    · have e : PO.applyE l kind x.ser x.qty closes = PO.legE kind x.qty closes := by unfold PO.applyE; rw [if_neg (by simp [hc]), if_pos hl]
      have e2 : PO.applyL l kind x.ser x.qty closes = [] := by unfold PO.applyL; rw [e, if_neg hl]
      have hne : (PO.legE kind x.qty closes != 0) = true := by simpa using hl
      rw [e, e2]
      generalize PO.legE kind x.qty closes = r at *
      clear e e2 hc hl ha hg
      go_enter Try.func29, Try.ntmps29
      go_wp2_with fail
      generalize w.alloc (.cells #[.string x.am, .string x.an, .string x.ser.prod, .int .i64 x.ser.kind, .int .i64 x.ser.expiry, .int .i64 x.ser.strike, .int .i64 x.qty, .int .i64 x.price, .int .i64 x.trade] 60) = w0 at *
      refine (C1.out _ HI0.out).mono ?_
      rintro e w1 ⟨rfl, b1⟩
      have HB1 := Lib.hid (HB0.out.trans (b1.mono HB0.out.size))
      have HX1 := Lib.hid (HX0.out.below b1 HX0.out.lt)
      have x6 : w1.cell? ⟨w.heap.size, 6, none⟩ = some (.int .i64 x.qty) := HX1.out.cell 6
      clear b1
      go_wp2_with fail
      refine (C2.out _).mono ?_
      rintro e w2 ⟨rfl, rfl⟩
      go_wp2_with fail
      go_ret2
      exact ⟨_, rfl, OwnR.nil _ _ _ _, HB1.out⟩
  · have e : PO.applyE l kind x.ser x.qty closes = PO.checkE l := by unfold PO.applyE; rw [if_pos hc]
    have e2 : PO.applyL l kind x.ser x.qty closes = [] := by unfold PO.applyL; rw [e, if_neg hc]
    have hne : (PO.checkE l != 0) = true := by simpa using hc
    rw [e, e2]
    generalize PO.checkE l = r at *
    clear e e2 hc
    go_enter Try.func29, Try.ntmps29
    go_wp2_with fail
    generalize w.alloc (.cells #[.string x.am, .string x.an, .string x.ser.prod, .int .i64 x.ser.kind, .int .i64 x.ser.expiry, .int .i64 x.ser.strike, .int .i64 x.qty, .int .i64 x.price, .int .i64 x.trade] 60) = w0 at *
    refine (C1.out _ HI0.out).mono ?_
    rintro e w1 ⟨rfl, b1⟩
    have HB1 := Lib.hid (HB0.out.trans (b1.mono HB0.out.size))
    clear b1
    go_wp2_with fail
    go_ret2
    exact ⟨_, rfl, OwnR.nil _ _ _ _, HB1.out⟩
end Go.Proofs.Ytdhkflmodcgooaa
