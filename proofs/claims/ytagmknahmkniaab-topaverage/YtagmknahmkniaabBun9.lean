/- Put together: OpenAvg, SeriesMath3, SeriesMath4, SerB, LegBox, TrdBox, RecsCat, RecsCut. -/
import Derived.Test.YtagmknahmkniaabBun8
import Derived.Test.YtagmknahmkniaabBun7
import Derived.Test.YtagmknahmkniaabBun3
import Derived.Lib.Bytealg
import Derived.Lib.Small
import Derived.Sort.Statements
import Derived.Test.YtagmknahmkniaabBun2
import Derived.Lib.Split
import Derived.Lib.SplitLaws
import Derived.Lib.Replace
import Derived.Test.YtagmknahmkniaabBun4
import Derived.Laws.StructEq
import Derived.Laws.ResultCell
import Derived.Laws.Rows
import Derived.Test.YtagmknahmkniaabBun5
import Derived.Test.YtagmknahmkniaabBun1
import Derived.Deep.RegionLawGrows
/- A law's arguments: a tick and the parts of accounts, by value. -/
namespace GM
structure Avg where
  tick : Int
  parts : List Part
end GM
namespace Go.Proofs.Ytagmknahmkniaab
open Go.ChangeShapes Go.WideShapes Go.ChangeAt Go.RowKit Go.Recs
set_option linter.unusedVariables false
set_option maxRecDepth 100000
theorem parts_cells {H : Type} {enc : TypeId × Value → H} {W : World} {base : Nat} {spare : Nat → Bool} {held : Bool} {k : Nat} {cs : List Value} {y : DataW H × List MemPlace}
    (h : DataW.trod enc Try.prog W base spare held k 60 cs = some y) : ∃ A cap, ∃ l : List GM.Part, cs = [.slice A l.length cap] ∧ Parts W A l := by
  obtain ⟨A, cap, rows, rfl, hR, hc, ds, sp, h1, h2, h3⟩ := open_rows (sz := 3) (R := fun r _ => okAll partL r) Try.underlying60 (by kernel_rfl) (by omega) (fun k cs y hl hy => leafs_ok 3 _ partL part_leafs k cs y hl hy) h
  have hall : ∀ r ∈ rows, okAll partL r := by
    intro r hr
    obtain ⟨i, hi, rfl⟩ := List.mem_iff_getElem.1 hr
    have := h3 i hi
    simpa [List.getD, hi] using this
  obtain ⟨l, rfl, hq⟩ := typed (ls := partL) partV _ part_row rows hall
  rw [List.length_map] at hc h2 ⊢
  exact ⟨A, cap, l, rfl, hR, hq⟩
theorem open_avgV {H : Type} {enc : TypeId × Value → H} {W : World} {base b0 : Nat} {spare : Nat → Bool} {held : Bool} {r : Reach} {v : Value} {d : DataW H} {p : List MemPlace}
    (hv : Value.okWide Try.prog W r b0 62 v) (h : DataW.Trod enc Try.prog W base spare held 62 v d p) :
    ∃ A cap, ∃ q : GM.Avg, v = .agg #[.int .i64 q.tick, .slice A q.parts.length cap] ∧ (Parts W A q.parts ∧ i64 q.tick) := by
  have ht := Try.underlying62
  have hz : Try.prog.cellsOf 62 = 2 := by kernel_rfl
  obtain ⟨cs, rfl, hs, _⟩ : ∃ cs, v = .agg cs ∧ cs.size = Try.prog.cellsOf 62 ∧ Row.okWide Try.prog W r b0 62 cs := by
    simpa [Value.okWide, ht] using hv
  obtain ⟨fuel, hf⟩ := h
  have hf' : DataW.trod enc Try.prog W base spare held fuel 62 cs.toList = some _ := hf
  obtain ⟨xs, n, _, hxd, _, hxl, hfl⟩ := DataW.trod_struct ht hf'
  have z3 : Try.prog.cellsOf 3 = 1 := by kernel_rfl
  have zs : Try.prog.cellsOf 60 = 1 := by kernel_rfl
  obtain ⟨cl, hcl⟩ : ∃ cl : List Value, cs.toList = cl := ⟨_, rfl⟩
  have hl2 : cl.length = 2 := by rw [← hcl]; simp; omega
  obtain rfl : cs = cl.toArray := by rw [← hcl]
  have h0 := hfl 0 _ rfl
  have h1 := hfl 1 _ rfl
  match xs, hxl with
  | [x0, x1], _ =>
  match cl, hl2 with
  | [c0, c1], _ =>
    have h0' : DataW.trod enc Try.prog W base spare held n 3 ([c0, c1].take (Try.prog.cellsOf 3)) = some x0 := h0
    have h1' : DataW.trod enc Try.prog W base spare held n 60 ([c1].take (Try.prog.cellsOf 60)) = some x1 := h1
    rw [z3] at h0'; rw [zs] at h1'
    obtain ⟨m0, hm0, _, q0⟩ := DataW.trod_int Try.underlying3 h0'
    obtain ⟨A, cap, l, hc1, hT⟩ := parts_cells h1'
    have e0 : c0 = .int .i64 m0 := by simpa using hm0
    have e1 : c1 = .slice A l.length cap := by simpa using hc1
    subst e0 e1
    exact ⟨A, cap, ⟨m0, l⟩, rfl, hT, bounds_i64 q0⟩
end Go.Proofs.Ytagmknahmkniaab

/- Layer 10's mathematics: the library's comparisons, a sorted list made compact. -/
namespace EM
open Go
theorem cb_less : ∀ a b : List UInt8, Lib.compareBytes a b = if Op.bytesLess a b = true then -1 else if Op.bytesLess b a = true then 1 else 0
  | [], [] => by simp [Lib.compareBytes, Op.bytesLess]
  | [], _ :: _ => by simp [Lib.compareBytes, Op.bytesLess]
  | _ :: _, [] => by simp [Lib.compareBytes, Op.bytesLess]
  | a :: x, b :: y => by
    have ih := cb_less x y
    unfold Lib.compareBytes Op.bytesLess
    by_cases h1 : a < b
    · simp [h1]
    · by_cases h2 : b < a
      · have h3 : ¬ a = b := by intro e; subst e; exact absurd h2 (by simp)
        simp [h1, h2, h3]
      · have h3 : a = b := by
          have l1 : ¬ a.toNat < b.toNat := h1
          have l2 : ¬ b.toNat < a.toNat := h2
          exact UInt8.toNat_inj.1 (by omega)
        subst h3
        simp [h1, ih]
/-- the first that is not 0 -/
def orL : List Int → Int
  | [] => 0
  | x :: r => if x = 0 then orL r else x
theorem or_skip {l : List Int} {k : Nat} (h : k < l.length) (h0 : l[k] = 0) : orL (l.drop k) = orL (l.drop (k + 1)) := by
  rw [List.drop_eq_getElem_cons h, orL, if_pos h0]
theorem or_stop {l : List Int} {k : Nat} (h : k < l.length) (h0 : l[k] ≠ 0) : orL (l.drop k) = l[k] := by
  rw [List.drop_eq_getElem_cons h, orL, if_neg h0]
def four (a b : Ser) : List Int := [Lib.compareBytes a.prod.data.toList b.prod.data.toList, Lib.compareInt a.expiry b.expiry, Lib.compareInt a.kind b.kind, Lib.compareInt a.strike b.strike]
theorem ci_ord (x y : Int) : Lib.compareInt x y = ord x y := by unfold Lib.compareInt ord; rfl
theorem ord_zero {x y : Int} : ord x y = 0 ↔ x = y := by unfold ord; split <;> (try split) <;> constructor <;> intro h <;> omega
theorem cmp_or (a b : Ser) : orL (four a b) = cmp a b := by
  have e : Lib.compareBytes a.prod.data.toList b.prod.data.toList = if less a b = true then -1 else if less b a = true then 1 else 0 := by
    rw [cb_less]; unfold less; rw [Go.ByteArray.toList_eq, Go.ByteArray.toList_eq]
  unfold four
  rw [e]
  simp only [orL, ci_ord]
  unfold cmp
  by_cases h1 : less a b = true
  · rw [if_pos h1, if_pos h1, if_neg (by decide)]
  · rw [if_neg h1, if_neg h1]
    by_cases h2 : less b a = true
    · rw [if_pos h2, if_pos h2, if_neg (by decide)]
    · rw [if_neg h2, if_neg h2, if_pos rfl]
      by_cases h3 : a.expiry = b.expiry
      · rw [if_pos (ord_zero.2 h3), if_neg (show ¬ (a.expiry ≠ b.expiry) by simp [h3])]
        by_cases h4 : a.kind = b.kind
        · rw [if_pos (ord_zero.2 h4), if_neg (show ¬ (a.kind ≠ b.kind) by simp [h4])]
          by_cases h5 : a.strike = b.strike
          · rw [if_pos (ord_zero.2 h5), ord_zero.2 h5]
          · rw [if_neg (fun h => h5 (ord_zero.1 h))]
        · rw [if_neg (fun h => h4 (ord_zero.1 h)), if_pos h4]
      · rw [if_neg (fun h => h3 (ord_zero.1 h)), if_pos h3]

/-- the order that the sort asks for -/
def ltB (a b : Ser) : Bool := decide (cmp a b < 0)
theorem ltB_true {a b : Ser} : ltB a b = true ↔ lt a b := by
  unfold ltB
  rw [decide_eq_true_eq]
  rcases cmp_cases a b with ⟨h, g⟩ | ⟨h, g⟩ | ⟨h, g⟩
  · rw [h]; exact ⟨fun _ => g, fun _ => by decide⟩
  · rw [h]; subst g; exact ⟨fun h => absurd h (by decide), fun h => absurd h (lt_irrefl _)⟩
  · rw [h]; exact ⟨fun h => absurd h (by decide), fun h => absurd h (lt_asymm g)⟩
theorem ltB_false {a b : Ser} : ltB a b = false ↔ a = b ∨ lt b a := by
  rw [Bool.eq_false_iff, ne_eq, ltB_true]
  constructor
  · intro h
    rcases lt_tri a b with g | g | g
    · exact absurd g h
    · exact .inl g
    · exact .inr g
  · rintro (rfl | g)
    · exact lt_irrefl _
    · exact lt_asymm g
theorem swo : Go.Sort.SWO ltB where
  irrefl x := ltB_false.2 (.inl rfl)
  trans x y z h1 h2 := ltB_true.2 (lt_trans (ltB_true.1 h1) (ltB_true.1 h2))
  ntrans x y z h1 h2 := by
    rw [ltB_false] at *
    rcases h1 with rfl | h1
    · exact h2
    · rcases h2 with rfl | h2
      · exact .inr h1
      · exact .inr (lt_trans h2 h1)


/-- each run once: what stands so far, and one more -/
noncomputable def addL (out : List Ser) (s : Ser) : List Ser := if @decide (out.getLast? = some s) (Classical.propDecidable _) then out else out ++ [s]
noncomputable def cmpc (l : List Ser) : List Ser := l.foldl addL []
theorem addL_same {out : List Ser} {s : Ser} (h : out.getLast? = some s) : addL out s = out := by unfold addL; simp [h]
theorem addL_new {out : List Ser} {s : Ser} (h : out.getLast? ≠ some s) : addL out s = out ++ [s] := by unfold addL; simp [h]
theorem cmpc_snoc (l : List Ser) (s : Ser) : cmpc (l ++ [s]) = addL (cmpc l) s := by simp [cmpc]
theorem cmpc_last : ∀ (l : List Ser) (s : Ser), (cmpc (l ++ [s])).getLast? = some s := by
  intro l s
  rw [cmpc_snoc]
  by_cases h : (cmpc l).getLast? = some s
  · rw [addL_same h]; exact h
  · rw [addL_new h]; simp
theorem cmpc_take {l : List Ser} {k : Nat} (h : k < l.length) : cmpc (l.take (k + 1)) = addL (cmpc (l.take k)) l[k] := by
  rw [List.take_succ_eq_append_getElem h, cmpc_snoc]
theorem cmpc_last_take {l : List Ser} {k : Nat} (h0 : 0 < k) (h : k ≤ l.length) : (cmpc (l.take k)).getLast? = some (l[k - 1]'(by omega)) := by
  obtain ⟨j, rfl⟩ : ∃ j, k = j + 1 := ⟨k - 1, by omega⟩
  rw [List.take_succ_eq_append_getElem (by omega)]
  exact cmpc_last _ _
/-- the next is the same as the one ahead; it is another -/
theorem cmpc_same {l : List Ser} {k : Nat} (h0 : 0 < k) (h : k < l.length) (e : l[k] = l[k - 1]) : cmpc (l.take (k + 1)) = cmpc (l.take k) := by
  rw [cmpc_take h]
  exact addL_same (by rw [cmpc_last_take h0 (by omega), e])
theorem cmpc_other {l : List Ser} {k : Nat} (h0 : 0 < k) (h : k < l.length) (e : l[k] ≠ l[k - 1]) : cmpc (l.take (k + 1)) = cmpc (l.take k) ++ [l[k]] := by
  rw [cmpc_take h]
  refine addL_new ?_
  rw [cmpc_last_take h0 (by omega)]
  intro g
  injection g with g
  exact e g.symm
theorem cmpc_one {l : List Ser} (h : l.length ≤ 1) : cmpc l = l := by
  match l, h with
  | [], _ => rfl
  | [a], _ => simp [cmpc, addL]
theorem cmpc_len (l : List Ser) : ∀ k, k ≤ l.length → (cmpc (l.take k)).length ≤ k := by
  intro k
  induction k with
  | zero => intro _; simp [cmpc]
  | succ k ih =>
    intro h
    rw [cmpc_take (by omega)]
    have := ih (by omega)
    unfold addL
    split
    · omega
    · rw [List.length_append]; simp; omega
theorem cmpc_mem (l : List Ser) : ∀ k, k ≤ l.length → ∀ y, y ∈ cmpc (l.take k) ↔ y ∈ l.take k := by
  intro k
  induction k with
  | zero => intro _ y; simp [cmpc]
  | succ k ih =>
    intro h y
    have hk : k < l.length := by omega
    rw [cmpc_take hk, List.take_succ_eq_append_getElem hk, List.mem_append, List.mem_singleton]
    by_cases e : (cmpc (l.take k)).getLast? = some l[k]
    · rw [addL_same e, ih (by omega)]
      constructor
      · exact .inl
      · rintro (g | g)
        · exact g
        · rw [← ih (by omega), g]
          exact List.mem_of_getLast? e
    · rw [addL_new e, List.mem_append, List.mem_singleton, ih (by omega)]
theorem cmpc_asc (l : List Ser) (hs : ∀ i j (hi : i < l.length) (hj : j < l.length), i < j → ltB l[j] l[i] = false) : ∀ k, k ≤ l.length → asc (cmpc (l.take k)) ∧ (∀ y ∈ cmpc (l.take k), ∀ j (hj : j < l.length), k ≤ j → y = l[j] ∨ lt y l[j]) := by
  intro k
  induction k with
  | zero => intro _; exact ⟨by simp [cmpc, asc], by simp [cmpc]⟩
  | succ k ih =>
    intro h
    have hk : k < l.length := by omega
    obtain ⟨h1, h2⟩ := ih (by omega)
    rw [cmpc_take hk]
    have hn : ∀ j (hj : j < l.length), k + 1 ≤ j → l[k] = l[j] ∨ lt l[k] l[j] := by
      intro j hj hkj
      rcases ltB_false.1 (hs k j hk hj (by omega)) with g | g
      · exact .inl g.symm
      · exact .inr g
    by_cases e : (cmpc (l.take k)).getLast? = some l[k]
    · rw [addL_same e]
      exact ⟨h1, fun y hy j hj hkj => h2 y hy j hj (by omega)⟩
    · rw [addL_new e]
      have hlt : ∀ y ∈ cmpc (l.take k), lt y l[k] := by
        intro y hy
        rcases h2 y hy k hk (Nat.le_refl _) with g | g
        · exfalso
          -- y is the last one's equal, and nothing but the last one can be that
          subst g
          obtain ⟨i, hi, ei⟩ := List.getElem_of_mem hy
          by_cases hl : i = (cmpc (l.take k)).length - 1
          · apply e
            rw [List.getLast?_eq_getElem?, ← hl, List.getElem?_eq_getElem hi, ei]
          · have hlast := List.pairwise_iff_getElem.1 h1 i ((cmpc (l.take k)).length - 1) hi (by omega) (by omega)
            rw [ei] at hlast
            rcases h2 _ (List.getElem_mem (by omega : (cmpc (l.take k)).length - 1 < (cmpc (l.take k)).length)) k hk (Nat.le_refl _) with g | g
            · rw [g] at hlast; exact lt_irrefl _ hlast
            · exact lt_asymm g hlast
        · exact g
      refine ⟨?_, ?_⟩
      · unfold asc
        rw [List.pairwise_append]
        refine ⟨h1, by simp, ?_⟩
        intro a ha b hb
        rw [List.mem_singleton.1 hb]
        exact hlt a ha
      · intro y hy j hj hkj
        rcases List.mem_append.1 hy with hy | hy
        · exact h2 y hy j hj (by omega)
        · rw [List.mem_singleton.1 hy]; exact hn j hj hkj
/-- a sorted permutation made compact is the list in order, each once -/
theorem cmpc_sort {l k : List Ser} (hp : k.Perm l) (hs : ∀ i j (hi : i < k.length) (hj : j < k.length), i < j → ltB k[j] k[i] = false) : cmpc k = sortL l := by
  have h1 := (cmpc_asc k hs k.length (Nat.le_refl _)).1
  have h2 := cmpc_mem k k.length (Nat.le_refl _)
  rw [List.take_length] at h1 h2
  exact sort_of_asc h1 (fun y => by rw [h2, hp.mem_iff])
theorem cmpc_size (l : List Ser) : (cmpc l).length ≤ l.length := by
  have := cmpc_len l l.length (Nat.le_refl _)
  rwa [List.take_length] at this
end EM

/- Layer 10's mathematics: a text cut at a byte as the library cuts it, and a byte struck out. -/
namespace EM
open Go
theorem step_ps (b : UInt8) (l : List UInt8) : ∀ (ps : List (List UInt8)) (q : List UInt8), l.foldl (WM.step b) (ps, q) = (ps ++ (l.foldl (WM.step b) ([], q)).1, (l.foldl (WM.step b) ([], q)).2) := by
  induction l with
  | nil => intro ps q; simp
  | cons c l ih =>
    intro ps q
    rw [List.foldl_cons, List.foldl_cons]
    by_cases h : c = b
    · have e1 : WM.step b (ps, q) c = (ps ++ [q], []) := by simp [WM.step, h]
      have e2 : WM.step b ([], q) c = ([q], []) := by simp [WM.step, h]
      rw [e1, e2, ih (ps ++ [q]), ih [q]]
      simp
    · have e1 : WM.step b (ps, q) c = (ps, q ++ [c]) := by simp [WM.step, h]
      have e2 : WM.step b ([], q) c = ([], q ++ [c]) := by simp [WM.step, h]
      rw [e1, e2, ih ps]
theorem pieces_no {b : UInt8} {l : List UInt8} (h : b ∉ l) : WM.pieces b l = [l] := by unfold WM.pieces; rw [WM.run_no h]; rfl
theorem pieces_at {b : UInt8} {x : List UInt8} (h : b ∉ x) (y : List UInt8) : WM.pieces b (x ++ b :: y) = x :: WM.pieces b y := by
  have e : WM.run b (x ++ b :: y) = ([x] ++ (WM.run b y).1, (WM.run b y).2) := by
    unfold WM.run
    rw [List.foldl_append, List.foldl_cons]
    have e1 : x.foldl (WM.step b) ([], []) = ([], x) := WM.run_no h
    rw [e1]
    have e2 : WM.step b ([], x) b = ([x], []) := by simp [WM.step]
    rw [e2, step_ps]
  unfold WM.pieces
  rw [e]; rfl
theorem pieces_pos (b : UInt8) (l : List UInt8) : 0 < (WM.pieces b l).length := by unfold WM.pieces; simp
theorem index_no {c : UInt8} : ∀ {s : List UInt8}, c ∉ s → Lib.index s [c] = -1 := by
  intro s
  induction s with
  | nil => intro _; rfl
  | cons b l ih =>
    intro h
    have h1 : ¬ c = b := fun e => h (by simp [e])
    have h2 : c ∉ l := fun e => h (by simp [e])
    unfold Lib.index
    rw [ih h2]
    simp [List.isPrefixOf, h1]
theorem index_at {c : UInt8} : ∀ {x : List UInt8}, c ∉ x → ∀ y, Lib.index (x ++ c :: y) [c] = x.length := by
  intro x
  induction x with
  | nil => intro _ y; simp [Lib.index, List.isPrefixOf]
  | cons b l ih =>
    intro h y
    have h1 : ¬ c = b := fun e => h (by simp [e])
    have h2 : c ∉ l := fun e => h (by simp [e])
    rw [List.cons_append]
    unfold Lib.index
    rw [ih h2]
    have h3 : ¬ ((l.length : Int) == -1) = true := by simp
    rw [if_neg (by simp [List.isPrefixOf, h1]), if_neg h3]
    simp
theorem split_pieces (c : UInt8) : ∀ (k : Nat) (s : List UInt8), ((WM.pieces c s).length ≤ k + 1 → Lib.splitK [c] 0 k s = WM.pieces c s) ∧ (k + 1 ≤ (WM.pieces c s).length → (Lib.splitK [c] 0 k s).length = k + 1) := by
  intro k
  induction k with
  | zero =>
    intro s
    refine ⟨fun h => ?_, fun _ => rfl⟩
    by_cases hc : c ∈ s
    · obtain ⟨x, y, rfl, hx⟩ := List.eq_append_cons_of_mem hc
      rw [pieces_at hx] at h
      have := pieces_pos c y
      simp at h
      rw [h] at this; simp at this
    · rw [pieces_no hc]; rfl
  | succ k ih =>
    intro s
    by_cases hc : c ∈ s
    · obtain ⟨x, y, rfl, hx⟩ := List.eq_append_cons_of_mem hc
      have e : Lib.splitK [c] 0 (k + 1) (x ++ c :: y) = x :: Lib.splitK [c] 0 k y := by
        have h3 : ¬ (Lib.index (x ++ c :: y) [c] == -1) = true := by rw [index_at hx]; simp
        rw [Lib.splitK, if_neg h3, index_at hx]
        simp
      rw [e, pieces_at hx]
      obtain ⟨h1, h2⟩ := ih y
      refine ⟨fun h => ?_, fun h => ?_⟩
      · rw [h1 (by simpa using h)]
      · rw [List.length_cons, h2 (by simpa using h)]
    · have e : Lib.splitK [c] 0 (k + 1) s = [s] := by rw [Lib.splitK, if_pos (by rw [index_no hc]; rfl)]
      rw [e, pieces_no hc]
      exact ⟨fun _ => rfl, fun h => absurd h (by simp)⟩
theorem pieces_short (c : UInt8) : ∀ (n : Nat) (s : List UInt8), s.length ≤ n → (WM.pieces c s).length ≤ s.length + 1 := by
  intro n
  induction n with
  | zero =>
    intro s h
    have : s = [] := List.eq_nil_of_length_eq_zero (by omega)
    subst this
    rw [pieces_no (by simp)]; simp
  | succ n ih =>
    intro s h
    by_cases hc : c ∈ s
    · obtain ⟨x, y, rfl, hx⟩ := List.eq_append_cons_of_mem hc
      rw [pieces_at hx]
      have hl : y.length ≤ n := by simp at h; omega
      have := ih y hl
      simp; omega
    · rw [pieces_no hc]; simp
/-- cut in four at most: three pieces, and no more -/
theorem split_three (c : UInt8) (s : List UInt8) : ((Lib.splitK [c] 0 (min 4 (s.length + 1) - 1) s).length = 3 ↔ (WM.pieces c s).length = 3) ∧ ((WM.pieces c s).length = 3 → Lib.splitK [c] 0 (min 4 (s.length + 1) - 1) s = WM.pieces c s) ∧ (Lib.splitK [c] 0 (min 4 (s.length + 1) - 1) s).length ≤ min 4 (s.length + 1) := by
  have hb := pieces_short c s.length s (Nat.le_refl _)
  generalize hk : min 4 (s.length + 1) - 1 = k
  have hk1 : k + 1 = min 4 (s.length + 1) := by omega
  obtain ⟨h1, h2⟩ := split_pieces c k s
  by_cases h : (WM.pieces c s).length ≤ k + 1
  · rw [h1 h]
    exact ⟨Iff.rfl, fun _ => rfl, by omega⟩
  · have := h2 (by omega)
    refine ⟨?_, ?_, by omega⟩
    · rw [this]; constructor <;> intro g <;> omega
    · intro g; omega
theorem strike_out (c : UInt8) : ∀ (k : Nat) (s : List UInt8), Lib.count s [c] = k → Lib.replaceK [c] [] k s = s.filter (fun b => !(b == c)) := by
  intro k
  induction k with
  | zero =>
    intro s h
    rw [Lib.count_one, List.count_eq_zero] at h
    rw [Lib.replaceK]
    rw [List.filter_eq_self.2]
    intro a ha
    simp only [Bool.not_eq_true', beq_eq_false_iff_ne, ne_eq]
    intro e; subst e; exact h ha
  | succ k ih =>
    intro s h
    have hc : c ∈ s := by
      rw [Lib.count_one] at h
      exact List.count_pos_iff.1 (by omega)
    obtain ⟨x, y, rfl, hx⟩ := List.eq_append_cons_of_mem hc
    rw [Lib.replaceK_hit [c] [] k _ x.length (index_at hx y)]
    have hy : Lib.count y [c] = k := by
      rw [Lib.count_one] at h ⊢
      rw [List.count_append, List.count_cons_self, List.count_eq_zero.2 hx] at h
      omega
    have e1 : (x ++ c :: y).take x.length = x := by simp
    have e2 : (x ++ c :: y).drop (x.length + [c].length) = y := by simp
    rw [e1, e2, ih y hy, List.filter_append, List.filter_cons]
    have e3 : x.filter (fun b => !(b == c)) = x := by
      rw [List.filter_eq_self]
      intro a ha
      simp only [Bool.not_eq_true', beq_eq_false_iff_ne, ne_eq]
      intro e; subst e; exact hx ha
    rw [e3]
    simp
theorem replace_out (c : UInt8) (s : List UInt8) : Lib.replaceAll s [c] [] = s.filter (fun b => !(b == c)) := by
  unfold Lib.replaceAll Lib.replace
  rw [if_neg (by simp)]
  unfold Lib.replaceNum
  rw [if_pos (.inl (by decide))]
  exact strike_out c _ s rfl
end EM

/- Layer 10: series compared and in boxes. -/
namespace Go.Proofs.Ytagmknahmkniaab
open Go.RowKit Go.Recs
set_option linter.unusedVariables false
abbrev serA (s : EM.Ser) : Value := .agg #[.string s.prod, .int .i64 s.kind, .int .i64 s.expiry, .int .i64 s.strike]
def seq (x y : EM.Ser) : Bool := (x.prod.toList == y.prod.toList) && ((x.kind == y.kind) && ((x.expiry == y.expiry) && (x.strike == y.strike)))
theorem seq_iff {x y : EM.Ser} : seq x y = true ↔ x = y := by
  constructor
  · intro h
    unfold seq at h
    simp only [Bool.and_eq_true, beq_iff_eq] at h
    obtain ⟨h1, h2, h3, h4⟩ := h
    cases x; cases y
    simp only at h1 h2 h3 h4
    rw [EM.toList_inj h1, h2, h3, h4]
  · rintro rfl
    simp [seq]
theorem seq_false {x y : EM.Ser} : seq x y = false ↔ x ≠ y := by rw [Bool.eq_false_iff, ne_eq, seq_iff]
theorem ser_in (x y : EM.Ser) (w : World) : (Op.equalIn 10000 35 (serA x) (serA y)).run Try.prog w = .ok (seq x y) w := by
  have u3 := Try.underlying3
  have u9 := Try.underlying9
  have a3 := Try.isAgg3
  have a9 := Try.isAgg9
  have z3 := Try.sizeOf3
  have z9 := Try.sizeOf9
  have hS : Try.prog.underlying 35 = some (.struct (Try.prog.fieldsOf 35)) := by kernel_rfl
  have hp : Try.prog.stoodInHeld 35 = false := by kernel_rfl
  rw [show (10000 : Nat) = 9999 + 1 from rfl, run_equalIn_agg w 9999 35 _ _ hS hp]
  simp only [Program.fieldsOf, Try.underlying35]
  unfold seq
  go_simp
  by_cases h1 : x.prod.toList = y.prod.toList <;> by_cases h2 : x.kind = y.kind <;> by_cases h3 : x.expiry = y.expiry <;> by_cases h4 : x.strike = y.strike <;> simp [h1, h2, h3, h4]
theorem ser_guard : Try.prog.eqGuardType Try.prog.depth 35 = false := by kernel_rfl
/-- block g is one series -/
def SBox (w : World) (g : Nat) (p : EM.Ser) : Prop := w.heap[g]? = some (.cells #[.string p.prod, .int .i64 p.kind, .int .i64 p.expiry, .int .i64 p.strike] 35 (0, 0))
section
variable {w w' : World} {g B : Nat} {p : EM.Ser}
theorem SBox.new (w : World) (p : EM.Ser) : SBox (w.alloc (.cells #[.string p.prod, .int .i64 p.kind, .int .i64 p.expiry, .int .i64 p.strike] 35)) w.heap.size p := heap_alloc_new w _
theorem SBox.below (h : SBox w g p) (hb : Below B w w') (hg : g < B) : SBox w' g p := (hb.block g hg).trans h
theorem SBox.lt (h : SBox w g p) : g < w.heap.size := lt_of_block h
theorem SBox.cells (h : SBox w g p) :
    w.cell? ⟨g, 0, none⟩ = some (.string p.prod) ∧ w.cell? ⟨g, 1, none⟩ = some (.int .i64 p.kind) ∧ w.cell? ⟨g, 2, none⟩ = some (.int .i64 p.expiry) ∧ w.cell? ⟨g, 3, none⟩ = some (.int .i64 p.strike) := by
  unfold SBox at h
  simp [World.cell?, h]
theorem SBox.drewN (h : SBox w g p) (n : Nat) : SBox (w.drewN n) g p := h
theorem SBox.drew (h : SBox w g p) : SBox w.drew g p := h
theorem SBox.alloc (h : SBox w g p) (o : Obj) : SBox (w.alloc o) g p := (Below.heap_alloc w o g h.lt).trans h
theorem SBox.frozen (h : SBox w g p) (i : Nat) : w.frozen? ⟨g, i, none⟩ = false := by unfold SBox at h; simp [World.frozen?, h]
theorem SBox.put (h : SBox w g p) (x : EM.Ser) : SBox ((((w.setCell ⟨g, 0, none⟩ (.string x.prod)).setCell ⟨g, 1, none⟩ (.int .i64 x.kind)).setCell ⟨g, 2, none⟩ (.int .i64 x.expiry)).setCell ⟨g, 3, none⟩ (.int .i64 x.strike)) g x := by
  unfold SBox at h ⊢
  simp [World.setCell, Array.getElem?_modify, h]
theorem SBox.put_below {a : World} (h : Below B a w) (hB : B ≤ g) (x : EM.Ser) : Below B a ((((w.setCell ⟨g, 0, none⟩ (.string x.prod)).setCell ⟨g, 1, none⟩ (.int .i64 x.kind)).setCell ⟨g, 2, none⟩ (.int .i64 x.expiry)).setCell ⟨g, 3, none⟩ (.int .i64 x.strike)) :=
  (((h.setCell hB _).setCell hB _).setCell hB _).setCell hB _
theorem SBox.strike (h : SBox w g p) (n : Int) : SBox (w.setCell ⟨g, 3, none⟩ (.int .i64 n)) g { p with strike := n } := by
  unfold SBox at h ⊢
  simp [World.setCell, Array.getElem?_modify, h]
end
theorem ser_under : Try.prog.underlying 35 = some (.struct (Try.prog.fieldsOf 35)) := by kernel_rfl
theorem ser_size : (Try.prog.info? 35).map (·.size) = some 4 := by kernel_rfl
theorem results_ser {fn : Func} {p u : Tmp} (h : fn.results = #[.cell p 35, .tmp u]) (tmps : Array Value) (w : World) (g : Nat) (x : EM.Ser)
    (hp : tmps.getD p undef = .pointer (some ⟨g, 0, none⟩)) (hb : SBox w g x) : (results fn tmps).run Try.prog w = .ok (.tuple #[serA x, tmps.getD u undef]) w := by
  rw [results_cell_tmp h, hp]
  simp only [asAddr, Sem.run_pure, Result.andThen_ok]
  rw [run_loadVar_row w g 35 35 _ (0, 0) _ hb ser_under rfl ser_size]
  rfl
end Go.Proofs.Ytagmknahmkniaab

/- A leg and an account's name in a box; records compared. -/
namespace Go.Proofs.Ytagmknahmkniaab
open Go.RowKit Go.Recs
set_option linter.unusedVariables false
set_option linter.unusedSimpArgs false
abbrev legA (x : NM.Leg) : Value := .agg #[.string x.am, .string x.an, .string x.ser.prod, .int .i64 x.ser.kind, .int .i64 x.ser.expiry, .int .i64 x.ser.strike, .int .i64 x.qty, .int .i64 x.price, .int .i64 x.trade]
abbrev legC (x : NM.Leg) : Array Value := #[.string x.am, .string x.an, .string x.ser.prod, .int .i64 x.ser.kind, .int .i64 x.ser.expiry, .int .i64 x.ser.strike, .int .i64 x.qty, .int .i64 x.price, .int .i64 x.trade]
abbrev kA (a b : ByteArray) : Value := .agg #[.string a, .string b]
abbrev kC (a b : ByteArray) : Array Value := #[.string a, .string b]
theorem info_leg : (Try.prog.info? 37).map (fun i => (i.zero, i.size, i.bytes)) = some (some (legA NM.zero), 9, 96) := by kernel_rfl
theorem leg_under : Try.prog.underlying 37 = some (.struct (Try.prog.fieldsOf 37)) := by kernel_rfl
theorem leg_size : (Try.prog.info? 37).map (·.size) = some 9 := by kernel_rfl
theorem load_leg (w : World) (g : Nat) (x : NM.Leg) (hb : CB w g 37 (legC x)) : (loadVar 37 ⟨g, 0, none⟩).run Try.prog w = .ok (legA x) w := by
  rw [run_loadVar_row w g 37 37 _ (0, 0) _ hb leg_under rfl leg_size]
theorem results_leg {fn : Func} {p : Tmp} (h : fn.results = #[.cell p 37]) (tmps : Array Value) (w : World) (g : Nat) (x : NM.Leg)
    (hp : tmps.getD p undef = .pointer (some ⟨g, 0, none⟩)) (hb : CB w g 37 (legC x)) : (results fn tmps).run Try.prog w = .ok (legA x) w := by
  rw [results_cell1 h, hp]
  simp only [asAddr, Sem.run_pure, Result.andThen_ok]
  exact load_leg w g x hb
theorem results_legs {fn : Func} {p q : Tmp} (h : fn.results = #[.cell p 37, .cell q 37]) (tmps : Array Value) (w : World) (g j : Nat) (x y : NM.Leg)
    (hp : tmps.getD p undef = .pointer (some ⟨g, 0, none⟩)) (hq : tmps.getD q undef = .pointer (some ⟨j, 0, none⟩)) (hb : CB w g 37 (legC x)) (hc : CB w j 37 (legC y)) : (results fn tmps).run Try.prog w = .ok (.tuple #[legA x, legA y]) w := by
  rw [results_cell2 h, hp]
  simp only [asAddr, Sem.run_pure, Result.andThen_ok]
  rw [load_leg w g x hb]
  simp only [Result.andThen_ok, hq, asAddr, Sem.run_pure]
  rw [load_leg w j y hc]
  rfl
/-- the world with the leg x in block g -/
def putL (w : World) (g : Nat) (x : NM.Leg) : World := ((((((((w.setCell ⟨g, 0, none⟩ (.string x.am)).setCell ⟨g, 1, none⟩ (.string x.an)).setCell ⟨g, 2, none⟩ (.string x.ser.prod)).setCell ⟨g, 3, none⟩ (.int .i64 x.ser.kind)).setCell ⟨g, 4, none⟩ (.int .i64 x.ser.expiry)).setCell ⟨g, 5, none⟩ (.int .i64 x.ser.strike)).setCell ⟨g, 6, none⟩ (.int .i64 x.qty)).setCell ⟨g, 7, none⟩ (.int .i64 x.price)).setCell ⟨g, 8, none⟩ (.int .i64 x.trade)
theorem CB.putL {w : World} {g : Nat} {y : NM.Leg} (h : CB w g 37 (legC y)) (x : NM.Leg) : CB (Proofs.Ytagmknahmkniaab.putL w g x) g 37 (legC x) := by
  have := ((((((((h.set_ 0 (.string x.am)).set_ 1 (.string x.an)).set_ 2 (.string x.ser.prod)).set_ 3 (.int .i64 x.ser.kind)).set_ 4 (.int .i64 x.ser.expiry)).set_ 5 (.int .i64 x.ser.strike)).set_ 6 (.int .i64 x.qty)).set_ 7 (.int .i64 x.price)).set_ 8 (.int .i64 x.trade)
  unfold Proofs.Ytagmknahmkniaab.putL
  simpa using this
theorem putL_below {a w : World} {B g : Nat} (h : Below B a w) (hg : B ≤ g) (x : NM.Leg) : Below B a (putL w g x) :=
  ((((((((h.setCell (p := ⟨g, 0, none⟩) hg _).setCell (p := ⟨g, 1, none⟩) hg _).setCell (p := ⟨g, 2, none⟩) hg _).setCell (p := ⟨g, 3, none⟩) hg _).setCell (p := ⟨g, 4, none⟩) hg _).setCell (p := ⟨g, 5, none⟩) hg _).setCell (p := ⟨g, 6, none⟩) hg _).setCell (p := ⟨g, 7, none⟩) hg _).setCell (p := ⟨g, 8, none⟩) hg _
theorem CB.putL_far {w : World} {g j : Nat} {t : TypeId} {cs : Array Value} (h : CB w g t cs) (hne : g ≠ j) (x : NM.Leg) : CB (Proofs.Ytagmknahmkniaab.putL w j x) g t cs :=
  ((((((((h.far (p := ⟨j, 0, none⟩) hne _).far (p := ⟨j, 1, none⟩) hne _).far (p := ⟨j, 2, none⟩) hne _).far (p := ⟨j, 3, none⟩) hne _).far (p := ⟨j, 4, none⟩) hne _).far (p := ⟨j, 5, none⟩) hne _).far (p := ⟨j, 6, none⟩) hne _).far (p := ⟨j, 7, none⟩) hne _).far (p := ⟨j, 8, none⟩) hne _
theorem acc_in_at (n : Nat) (a b c d : ByteArray) (w : World) : (Op.equalIn (n + 2) 32 (kA a b) (kA c d)).run Try.prog w = .ok (NM.aeq a b c d) w := by
  have u9 := Try.underlying9
  have a9 := Try.isAgg9
  have z9 := Try.sizeOf9
  have hS : Try.prog.underlying 32 = some (.struct (Try.prog.fieldsOf 32)) := by kernel_rfl
  have hp : Try.prog.stoodInHeld 32 = false := by kernel_rfl
  rw [show n + 2 = (n + 1) + 1 from rfl, run_equalIn_agg w (n + 1) 32 _ _ hS hp]
  simp only [Program.fieldsOf, Try.underlying32]
  unfold NM.aeq
  go_simp
  by_cases h1 : a.toList = c.toList <;> by_cases h2 : b.toList = d.toList <;> simp [h1, h2]
theorem ser_in_at (n : Nat) (x y : EM.Ser) (w : World) : (Op.equalIn (n + 2) 35 (serA x) (serA y)).run Try.prog w = .ok (NM.seqB x y) w := by
  have u3 := Try.underlying3
  have u9 := Try.underlying9
  have a3 := Try.isAgg3
  have a9 := Try.isAgg9
  have z3 := Try.sizeOf3
  have z9 := Try.sizeOf9
  have hS : Try.prog.underlying 35 = some (.struct (Try.prog.fieldsOf 35)) := by kernel_rfl
  have hp : Try.prog.stoodInHeld 35 = false := by kernel_rfl
  rw [show n + 2 = (n + 1) + 1 from rfl, run_equalIn_agg w (n + 1) 35 _ _ hS hp]
  simp only [Program.fieldsOf, Try.underlying35]
  unfold NM.seqB
  go_simp
  by_cases h1 : x.prod.toList = y.prod.toList <;> by_cases h2 : x.kind = y.kind <;> by_cases h3 : x.expiry = y.expiry <;> by_cases h4 : x.strike = y.strike <;> simp [h1, h2, h3, h4]
theorem acc_in (a b c d : ByteArray) (w : World) : (Op.equalIn 10000 32 (kA a b) (kA c d)).run Try.prog w = .ok (NM.aeq a b c d) w := acc_in_at 9998 a b c d w
theorem serB_in (x y : EM.Ser) (w : World) : (Op.equalIn 10000 35 (serA x) (serA y)).run Try.prog w = .ok (NM.seqB x y) w := ser_in_at 9998 x y w
theorem acc_guard : Try.prog.eqGuardType Try.prog.depth 32 = false := by kernel_rfl
theorem leg_guard : Try.prog.eqGuardType Try.prog.depth 37 = false := by kernel_rfl
theorem leg_in (x y : NM.Leg) (w : World) : (Op.equalIn 10000 37 (legA x) (legA y)).run Try.prog w = .ok (NM.leq x y) w := by
  have u3 := Try.underlying3
  have a3 := Try.isAgg3
  have z3 := Try.sizeOf3
  have aA := Try.isAgg32
  have zA := Try.sizeOf32
  have aS := Try.isAgg35
  have zS := Try.sizeOf35
  have hS : Try.prog.underlying 37 = some (.struct (Try.prog.fieldsOf 37)) := by kernel_rfl
  have hp : Try.prog.stoodInHeld 37 = false := by kernel_rfl
  have e1 := acc_in_at 9997 x.am x.an y.am y.an
  have e2 := ser_in_at 9997 x.ser y.ser
  rw [show (10000 : Nat) = 9999 + 1 from rfl, run_equalIn_agg w 9999 37 _ _ hS hp]
  simp only [Program.fieldsOf, Try.underlying37]
  unfold NM.leq
  generalize NM.aeq x.am x.an y.am y.an = p at *
  generalize NM.seqB x.ser y.ser = q at *
  go_simp
  cases p <;> cases q <;> by_cases h1 : x.qty = y.qty <;> by_cases h2 : x.price = y.price <;> by_cases h3 : x.trade = y.trade <;> simp [h1, h2, h3]
end Go.Proofs.Ytagmknahmkniaab

/- A trade in a box and in slices. -/
namespace Go.Proofs.Ytagmknahmkniaab
open Go.RowKit Go.Recs
set_option linter.unusedVariables false
set_option linter.unusedSimpArgs false
abbrev trdA (t : TM.Trd) : Value := .agg #[.int .i64 t.id, .int .i64 t.day, .int .i64 t.time, .string t.ser.prod, .int .i64 t.ser.kind, .int .i64 t.ser.expiry, .int .i64 t.ser.strike, .int .i64 t.qty, .int .i64 t.price, .string t.bm, .string t.bn, .string t.sm, .string t.sn]
abbrev trdC (t : TM.Trd) : Array Value := #[.int .i64 t.id, .int .i64 t.day, .int .i64 t.time, .string t.ser.prod, .int .i64 t.ser.kind, .int .i64 t.ser.expiry, .int .i64 t.ser.strike, .int .i64 t.qty, .int .i64 t.price, .string t.bm, .string t.bn, .string t.sm, .string t.sn]
theorem info_trd : (Try.prog.info? 69).map (fun i => (i.zero, i.size, i.bytes)) = some (some (trdA TM.zero), 13, 144) := by kernel_rfl
end Go.Proofs.Ytagmknahmkniaab

/- 's = append(s, l...)', l a slice of records. Over any program. -/
namespace Go.Recs
open Go.RowKit
set_option linter.unusedVariables false
set_option linter.unusedSimpArgs false

theorem run_catR {P : Program} (w : World) (B : Nat) (rows more : List (List Value)) (ts t ty : TypeId) (sz bytes : Nat) (z : Value)
    (hu : P.underlying ts = some (.slice t)) (hinfo : (P.info? t).map (fun i => (i.zero, i.size, i.bytes)) = some (some z, sz, bytes)) (hz : z.cells.size = sz) (h0 : 0 < sz)
    (v : Value) (hown : OwnR w B t sz v rows) (A : Option Addr) (c : Nat) (hm : Recs w A sz more) (h1 : ∀ r ∈ more, ∀ u ∈ r, u.oneCell' = true)
    (hl : (rows.length + more.length) * bytes ≤ 140737488355328) (hmx : rows.length + more.length ≤ maxLen) (hB : B ≤ w.heap.size) :
    ∃ v' w', (Builtin.append_ #[ts, ts] ty #[v, .slice A more.length c]).run P w = .ok v' w' ∧ OwnR w' B t sz v' (rows ++ more) ∧ w.grownBy w' v.ownBlock := by
  obtain ⟨i0, hi, hz0, hz1, hz2⟩ := info_parts hinfo
  have hrr : ∀ r ∈ rows ++ more, r.length = sz := by
    intro r hr
    rcases List.mem_append.1 hr with hr | hr
    · exact hown.1 r hr
    · exact hm.2.1 r hr
  have key : ∀ ad, A = some ad → ∃ v' w', (Builtin.append_ #[ts, ts] ty #[v, .slice A more.length c]).run P w = .ok v' w' ∧ OwnR w' B t sz v' (rows ++ more) ∧ w.grownBy w' v.ownBlock := by
    rintro ad rfl
    have hcells : ∀ j u, more.flatten[j]? = some u → w.cell? (ad.add j) = some u := by
      intro j u hj
      rcases hm.2.2 with e | ⟨b, off, e, hb, hcell⟩
      · subst e; simp at hj
      · injection e with e
        subst e
        have hlt : j < more.flatten.length := by
          rcases Nat.lt_or_ge j more.flatten.length with h | h
          · exact h
          · rw [List.getElem?_eq_none h] at hj; cases hj
        rw [flat_len hm.2.1] at hlt
        have hi' : j / sz < more.length := Nat.div_lt_of_lt_mul (by rw [Nat.mul_comm]; exact hlt)
        have hj' : j % sz < sz := Nat.mod_lt _ h0
        have ej : j / sz * sz + j % sz = j := by rw [Nat.mul_comm]; exact Nat.div_add_mod j sz
        have e := flat_at hm.2.1 (j / sz) (j % sz) hi' hj'
        have e2 := hcell (j / sz) (j % sz) hi' hj'
        rw [ej] at e e2
        rw [add_at, e2, ← e, hj]
    obtain ⟨v', w', hr, h2, h3, _, _⟩ := run_append_own_at (P := P) w B ts ty t i0 z sz bytes hu hi hz0 hz1 hz2 hz h0 v rows.length rows.flatten hown.2 ad more.length c more.flatten
      (flat_len hm.2.1) hcells (fun u hu => by obtain ⟨r, hr, hur⟩ := List.mem_flatten.1 hu; exact h1 r hr u hur) hmx hl hB
    refine ⟨v', w', hr, ⟨hrr, ?_⟩, h3⟩
    rw [List.length_append, List.flatten_append]
    exact h2
  cases A with
  | some ad => exact key ad rfl
  | none =>
    have : more = [] := by
      rcases hm.2.2 with h | ⟨b, off, e, _⟩
      · exact h
      · cases e
    subst this
    refine ⟨v, w, ?_, by simpa using hown, World.grownBy.refl w _⟩
    rcases hown.form with ⟨hv, _⟩ | ⟨g, cap, hv, _, _, hnc⟩ <;> rw [hv]
    · simp [Builtin.append_, run_underlying hu, sizeOf, typeInfo, hi, Builtin.lenOf, Builtin.firstCells]
    · simp [Builtin.append_, run_underlying hu, sizeOf, typeInfo, hi, Builtin.lenOf, Builtin.firstCells, storeCells]
      omega

theorem wpList_catR {P : Program} {ops : Array Oper} {rest : List Oper} {o : Oper} {a : Act} {Q : Exit → Act → World → Prop} (w : World) (B : Nat) (rows more : List (List Value)) (x y : Operand) (ts t : TypeId) (sz bytes : Nat) (z : Value)
    (hu : P.underlying ts = some (.slice t)) (hinfo : (P.info? t).map (fun i => (i.zero, i.size, i.bytes)) = some (some z, sz, bytes)) (hz : z.cells.size = sz) (h0 : 0 < sz)
    (hgd : o.guard = none) (ho : o.op = .call { callee := .builtin .append, args := #[x, y], argTypes := #[ts, ts] })
    (v : Value) (A : Option Addr) (n c : Nat) (hs : a.eval x = v) (hx : a.eval y = .slice A n c) (hn : n = more.length) (hown : OwnR w B t sz v rows) (hm : Recs w A sz more) (h1 : ∀ r ∈ more, ∀ u ∈ r, u.oneCell' = true)
    (hl : (rows.length + more.length) * bytes ≤ 140737488355328) (hmx : rows.length + more.length ≤ maxLen) (hB : B ≤ w.heap.size)
    (h : ∀ v' w', OwnR w' B t sz v' (rows ++ more) → Below B w w' → w.grownBy w' v.ownBlock → wpList P ops Q rest (a.put o.dst v') w') :
    wpList P ops Q (o :: rest) a w := by
  subst hn
  obtain ⟨v', w', hr, h2, h3⟩ := run_catR w B rows more ts t o.type sz bytes z hu hinfo hz h0 v hown A c hm h1 hl hmx hB
  refine wpList_plain hgd fun K hK => ?_
  unfold Oper.wp execOp
  simp only [ho, resolve, invoke, builtin, Sem.run_bind, Sem.run_pure, Result.andThen_ok, List.map_toArray, List.map_cons, List.map_nil, hs, hx, hr]
  exact hK _ _ (h v' w' h2 ((Below.refl B w).grown h3 hB (OwnR.block hown)) h3)
end Go.Recs

/- Parts of slices of records, and appends in regions that draw, over any program. -/
namespace Go.Recs
open Go.RowKit
set_option linter.unusedVariables false
set_option linter.unusedSimpArgs false
/-- where a part of a slice lies -/
def cutR (A : Option Addr) (m lo sz : Nat) : Option Addr := if m = lo then A else A.map (·.add (lo * sz))
theorem Recs.cut {w : World} {A : Option Addr} {sz : Nat} {rows : List (List Value)} (h : Recs w A sz rows) {m lo hi : Nat} (h1 : lo ≤ hi) (h2 : hi ≤ rows.length) (h3 : hi ≤ m) : Recs w (cutR A m lo sz) sz ((rows.take hi).drop lo) := by
  by_cases hz : lo = hi
  · have : (rows.take hi).drop lo = [] := by rw [List.drop_eq_nil_iff, List.length_take]; omega
    rw [this]; exact Recs.nil _ _ _
  · unfold cutR
    rw [if_neg (by omega)]
    have hl : ((rows.take hi).drop lo).length = hi - lo := by rw [List.length_drop, List.length_take]; omega
    refine ⟨by rw [hl]; have := h.1; omega, fun r hr => h.2.1 r (List.mem_of_mem_take (List.mem_of_mem_drop hr)), ?_⟩
    rcases h.2.2 with h | ⟨b, off, rfl, hb, hc⟩
    · subst h; simp at h2; omega
    · refine .inr ⟨b, off + lo * sz, by simp [add_at], hb, fun i j hi' hj => ?_⟩
      rw [hl] at hi'
      have := hc (lo + i) j (by omega) hj
      rw [Nat.add_mul] at this
      rw [show off + lo * sz + (i * sz + j) = off + (lo * sz + i * sz + j) by omega, this]
      have e : ((rows.take hi).drop lo).getD i [] = rows.getD (lo + i) [] := by
        have h1 : lo + i < rows.length := by omega
        have h2 : lo + i < hi := by omega
        simp [List.getD, h1, h2, List.getElem?_take]
      rw [e]
theorem run_fromR {P : Program} {ts t : TypeId} {sz bytes : Nat} {z : Value} (hu : P.underlying ts = some (.slice t)) (hinfo : (P.info? t).map (fun i => (i.zero, i.size, i.bytes)) = some (some z, sz, bytes)) {A : Option Addr} {n cap lo : Nat} (h : lo ≤ n) (w : World) :
    (Instr.slice ts (.slice A n cap) (some (.int .i64 (lo : Int))) none none).run P w = .ok (.slice (cutR A cap lo sz) (n - lo) (cap - lo)) w := by
  obtain ⟨i0, hi, hz0, hz1, hz2⟩ := info_parts hinfo
  have h0 : (0 : Int) ≤ (lo : Int) ∧ (lo : Int) ≤ (n : Int) := by omega
  simp [Instr.slice, Instr.sliceBounds, Instr.sliceBound, asIntOf, run_underlying hu, sizeOf, typeInfo, hi, hz1, h0, cutR]
  intro hc; omega
theorem run_full {P : Program} {ts t : TypeId} {sz bytes : Nat} {z : Value} (hu : P.underlying ts = some (.slice t)) (hinfo : (P.info? t).map (fun i => (i.zero, i.size, i.bytes)) = some (some z, sz, bytes)) {A : Option Addr} {n cap k : Nat} (h : k ≤ cap) (w : World) :
    (Instr.slice ts (.slice A n cap) none (some (.int .i64 (k : Int))) (some (.int .i64 (k : Int)))).run P w = .ok (.slice (cutR A k 0 sz) k k) w := by
  obtain ⟨i0, hi, hz0, hz1, hz2⟩ := info_parts hinfo
  have h0 : (0 : Int) ≤ (k : Int) ∧ (k : Int) ≤ (cap : Int) := by omega
  have h1 : (0 : Int) ≤ (k : Int) ∧ (k : Int) ≤ (k : Int) := by omega
  simp [Instr.slice, Instr.sliceBounds, Instr.sliceBound, asIntOf, run_underlying hu, sizeOf, typeInfo, hi, hz1, h0, h1, cutR]
  all_goals (try (intro hc; omega))
theorem run_toR {P : Program} {ts t : TypeId} {sz bytes : Nat} {z : Value} (hu : P.underlying ts = some (.slice t)) (hinfo : (P.info? t).map (fun i => (i.zero, i.size, i.bytes)) = some (some z, sz, bytes)) {A : Option Addr} {n cap k : Nat} (h : k ≤ cap) (w : World) :
    (Instr.slice ts (.slice A n cap) none (some (.int .i64 (k : Int))) none).run P w = .ok (.slice (cutR A cap 0 sz) k cap) w := by
  obtain ⟨i0, hi, hz0, hz1, hz2⟩ := info_parts hinfo
  have h0 : (0 : Int) ≤ (k : Int) ∧ (k : Int) ≤ (cap : Int) := by omega
  simp [Instr.slice, Instr.sliceBounds, Instr.sliceBound, asIntOf, run_underlying hu, sizeOf, typeInfo, hi, hz1, h0, cutR]
  all_goals (try (intro hc; omega))

theorem step_growR {P : Program} {ops : Array Oper} {o : Oper} {a : Act} {K : Act → World → Prop} {Q : Exit → Act → World → Prop} {E : Prop} (w : World) (x : List Value) (hx1 : ∀ u ∈ x, u.oneCell' = true) (rows : List (List Value)) (s y : Operand) (ts t : TypeId) (sz bytes : Nat) (z : Value)
    (hu : P.underlying ts = some (.slice t)) (hinfo : (P.info? t).map (fun i => (i.zero, i.size, i.bytes)) = some (some z, sz, bytes)) (hz : z.cells.size = sz) (h0 : 0 < sz) (hxl : x.length = sz)
    (hgd : o.guard = none) (ho : o.op = .call { callee := .builtin .append, args := #[s, y], argTypes := #[ts, ts] })
    (A : Option Addr) (n cap : Nat) (hs : a.eval s = .slice A n cap) (hx : a.eval y = .slice (some ⟨w.heap.size, 0, none⟩) 1 1) (hn : n = rows.length) (hcap : cap = n) (hA : Recs w A sz rows) (hl : (rows.length + 1) * bytes ≤ 140737488355328) (hm : rows.length + 1 ≤ maxLen)
    (h : ∀ v' w', OwnR w' w.heap.size t sz v' (rows ++ [x]) → Below w.heap.size w w' → K (a.put o.dst v') w') :
    if Region.wanted o (yielded ops a.tmps) = true then Oper.wp P o a (w.alloc (.cells x.toArray t)) K Q else E := by
  subst hn hcap
  obtain ⟨i0, hi, hz0, hz1, hz2⟩ := info_parts hinfo
  have hb0 : Below w.heap.size w (w.alloc (.cells x.toArray t)) := (Below.refl _ _).alloc (Nat.le_refl _) _
  have hA2 := hA.below hb0
  refine step_append_grows hgd s y ts ho t i0 z sz bytes hu hi hz0 hz1 hz2 hz h0 A rows.length rows.length rows.flatten hs ?_ (flat_len hA.2.1) ?_ ⟨w.heap.size, 0, none⟩ 1 1 x hx (by omega) ?_ hx1 (by omega) hm hl ?_
  · intro e
    rcases hA.2.2 with g | ⟨b, off, g, _⟩
    · rw [g]; simp
    · rw [e] at g; cases g
  · rintro b rfl j u hj
    rcases hA2.2.2 with e | ⟨b', off', e, hb, hcell⟩
    · subst e; simp at hj
    · injection e with e
      subst e
      have hlt : j < rows.flatten.length := by
        rcases Nat.lt_or_ge j rows.flatten.length with h | h
        · exact h
        · rw [List.getElem?_eq_none h] at hj; cases hj
      rw [flat_len hA.2.1] at hlt
      have hi' : j / sz < rows.length := Nat.div_lt_of_lt_mul (by rw [Nat.mul_comm]; exact hlt)
      have hj' : j % sz < sz := Nat.mod_lt _ h0
      have ej : j / sz * sz + j % sz = j := by rw [Nat.mul_comm]; exact Nat.div_add_mod j sz
      have e := flat_at hA.2.1 (j / sz) (j % sz) hi' hj'
      have e2 := hcell (j / sz) (j % sz) hi' hj'
      rw [ej] at e e2
      rw [add_at, e2, ← e, hj]
  · intro j u hj
    rw [add_at, Nat.zero_add]
    have hlt : j < x.length := by
      rcases Nat.lt_or_ge j x.length with g | g
      · exact g
      · rw [List.getElem?_eq_none g] at hj; cases hj
    have e : x.toArray[j]? = some u := by simpa using hj
    simp [e]
  · intro v' w' h1 h2
    have hr : ∀ r ∈ rows ++ [x], r.length = sz := by
      intro r hr
      rcases List.mem_append.1 hr with hr | hr
      · exact hA.2.1 r hr
      · rw [List.mem_singleton.1 hr]; exact hxl
    have ho : OwnR w' (w.heap.size + 1) t sz v' (rows ++ [x]) := ⟨hr, by simpa using h1⟩
    refine h v' w' (ho.lower (by omega)) (hb0.trans ((Below.refl _ _).grown h2 (by simp) (fun k hk => by cases hk)))

theorem step_catR {P : Program} {ops : Array Oper} {o : Oper} {a : Act} {K : Act → World → Prop} {Q : Exit → Act → World → Prop} {E : Prop} (w : World) (B : Nat) (rows more : List (List Value)) (x y : Operand) (ts t : TypeId) (sz bytes : Nat) (z : Value)
    (hu : P.underlying ts = some (.slice t)) (hinfo : (P.info? t).map (fun i => (i.zero, i.size, i.bytes)) = some (some z, sz, bytes)) (hz : z.cells.size = sz) (h0 : 0 < sz)
    (hgd : o.guard = none) (ho : o.op = .call { callee := .builtin .append, args := #[x, y], argTypes := #[ts, ts] })
    (v : Value) (A : Option Addr) (n c : Nat) (hs : a.eval x = v) (hx : a.eval y = .slice A n c) (hn : n = more.length) (hown : OwnR w B t sz v rows) (hm : Recs w A sz more) (h1 : ∀ r ∈ more, ∀ u ∈ r, u.oneCell' = true)
    (hl : (rows.length + more.length) * bytes ≤ 140737488355328) (hmx : rows.length + more.length ≤ maxLen) (hB : B ≤ w.heap.size)
    (h : ∀ v' w', OwnR w' B t sz v' (rows ++ more) → Below B w w' → K (a.put o.dst v') w') :
    if Region.wanted o (yielded ops a.tmps) = true then Oper.wp P o a w K Q else E := by
  subst hn
  have hw : Region.wanted o (yielded ops a.tmps) = true := by simp [Region.wanted, hgd]
  rw [if_pos hw]
  obtain ⟨v', w', hr, h2, h3⟩ := run_catR w B rows more ts t o.type sz bytes z hu hinfo hz h0 v hown A c hm h1 hl hmx hB
  unfold Oper.wp
  simp [execOp, ho, resolve, invoke, builtin, hs, hx, hr, Result.andThen]
  exact h v' w' h2 ((Below.refl B w).grown h3 hB (OwnR.block hown))

/-- the records are not in block g -/
def Apart {α : Type} (g : Nat) (A : Option Addr) (l : List α) : Prop := l = [] ∨ ∃ b off, A = some ⟨b, off, none⟩ ∧ b ≠ g
theorem TR.apart {α : Type} {f : α → List Value} {Q : α → Prop} {sz : Nat} {w : World} {A : Option Addr} {l : List α} (h : TR f Q sz w A l) {g : Nat} (hg : w.heap.size ≤ g) : Apart g A l := by
  rcases h.1.2.2 with e | ⟨b, off, rfl, hb, _⟩
  · exact .inl (by simpa using e)
  · exact .inr ⟨b, off, rfl, by omega⟩
theorem TR.set_ {α : Type} {f : α → List Value} {Q : α → Prop} {sz : Nat} {w : World} {A : Option Addr} {l : List α} (h : TR f Q sz w A l) {g i : Nat} (ha : Apart g A l) (u : Value) : TR f Q sz (w.setCell ⟨g, i, none⟩ u) A l := by
  rcases ha with rfl | ⟨b, off, rfl, hb⟩
  · exact TR.nil _ _
  · obtain ⟨⟨h1, h2, h3⟩, h4⟩ := h
    refine ⟨⟨h1, h2, ?_⟩, h4⟩
    rcases h3 with e | ⟨b', off', e, hb', hc⟩
    · exact .inl e
    · injection e with e
      injection e with e1 e2
      subst e1 e2
      refine .inr ⟨b, off, rfl, by simpa using hb', fun i' j hi hj => ?_⟩
      rw [← hc i' j hi hj]
      unfold World.cell?
      rw [Below.heap_setCell w ⟨g, i, none⟩ u b hb]

/-- a slice of members that the call itself made: its accounts lie elsewhere -/
def OwnM (t : TypeId) (w : World) (B : Nat) (v : Value) (rows : List MRow) : Prop := OwnR w B t 3 v (rows.map mrowV) ∧ ∀ r ∈ rows, mrowQ w r ∧ ∀ g, v.ownBlock = some g → Apart g r.A r.m.accs
section
variable {t : TypeId} {w w' : World} {B : Nat} {v : Value} {rows : List MRow}
theorem OwnM.below (h : OwnM t w B v rows) (hb : Below w.heap.size w w') : OwnM t w' B v rows := ⟨h.1.below hb, fun r hr => ⟨(h.2 r hr).1.below hb, (h.2 r hr).2⟩⟩
theorem OwnM.mems (h : OwnM t w B v rows) : ∃ A cap, v = .slice A (rows.map MRow.m).length cap ∧ Mems w A (rows.map MRow.m) ∧ (rows.map MRow.m).length ≤ cap := by
  obtain ⟨A, cap, rfl, hr, hc⟩ := h.1.recs
  refine ⟨A, cap, by simp, ⟨rows, rfl, hr, fun r hr => (h.2 r hr).1⟩, by simpa using hc⟩
theorem getD_rows {k : Nat} (hk : k < rows.length) : (rows.map mrowV).getD k [] = mrowV rows[k] := by simp [List.getD, hk]
/-- member k gets other accounts -/
theorem OwnM.setA {g n c : Nat} (h : OwnM t w B (.slice (some ⟨g, 0, none⟩) n c) rows) {k : Nat} (hk : k < rows.length) {A' : Option Addr} {al : List MM.Ac} {cap' : Nat} (hA : Accs w A' al) (hc : al.length ≤ cap') (ha : Apart g A' al) :
    OwnM t (w.setCell ⟨g, k * 3 + 2, none⟩ (.slice A' al.length cap')) B (.slice (some ⟨g, 0, none⟩) n c) (rows.set k ⟨{ rows[k].m with accs := al }, A', cap'⟩) := by
  refine ⟨?_, ?_⟩
  · have := h.1.set_ (by omega) (i := k) (j := 2) (by simpa using hk) (by omega) (.slice A' al.length cap')
    rw [getD_rows hk] at this
    rw [List.map_set]
    exact this
  · intro r hr
    rcases List.mem_or_eq_of_mem_set hr with hr | rfl
    · obtain ⟨⟨q1, q2, q3, q4⟩, q5⟩ := h.2 r hr
      exact ⟨⟨q1, q2, q3.set_ (q5 g rfl) _, q4⟩, q5⟩
    · obtain ⟨⟨q1, q2, q3, q4⟩, q5⟩ := h.2 rows[k] (List.getElem_mem hk)
      refine ⟨⟨q1, q2, hA.set_ ha _, hc⟩, fun g' hg' => ?_⟩
      have : g' = g := by simpa [Value.ownBlock] using hg'.symm
      subst this; exact ha
/-- member k gets another status -/
theorem OwnM.setS {g n c : Nat} (h : OwnM t w B (.slice (some ⟨g, 0, none⟩) n c) rows) {k : Nat} (hk : k < rows.length) {s : Int} (hs : i64 s) :
    OwnM t (w.setCell ⟨g, k * 3 + 1, none⟩ (.int .i64 s)) B (.slice (some ⟨g, 0, none⟩) n c) (rows.set k ⟨{ rows[k].m with status := s }, rows[k].A, rows[k].cap⟩) := by
  refine ⟨?_, ?_⟩
  · have := h.1.set_ (by omega) (i := k) (j := 1) (by simpa using hk) (by omega) (.int .i64 s)
    rw [getD_rows hk] at this
    rw [List.map_set]
    exact this
  · intro r hr
    rcases List.mem_or_eq_of_mem_set hr with hr | rfl
    · obtain ⟨⟨q1, q2, q3, q4⟩, q5⟩ := h.2 r hr
      exact ⟨⟨q1, q2, q3.set_ (q5 g rfl) _, q4⟩, q5⟩
    · obtain ⟨⟨q1, q2, q3, q4⟩, q5⟩ := h.2 rows[k] (List.getElem_mem hk)
      exact ⟨⟨q1, hs, q3.set_ (q5 g rfl) _, q4⟩, q5⟩
end
theorem mrowV_one (rows : List MRow) : ∀ r ∈ rows.map mrowV, ∀ u ∈ r, u.oneCell' = true := by
  intro r hr u hu
  obtain ⟨p, _, rfl⟩ := List.mem_map.1 hr
  simp only [mrowV, List.mem_cons, List.not_mem_nil, or_false] at hu
  rcases hu with rfl | rfl | rfl <;> rfl
theorem accV_one (l : List MM.Ac) : ∀ r ∈ l.map accV, ∀ u ∈ r, u.oneCell' = true := by
  intro r hr u hu
  obtain ⟨p, _, rfl⟩ := List.mem_map.1 hr
  simp only [accV, List.mem_cons, List.not_mem_nil, or_false] at hu
  rcases hu with rfl | rfl <;> rfl
end Go.Recs
