/- Put together: SeriesMath3, SeriesMath4, SeriesMath5, Recs, RecsOwn, TRecs, ProdCells. -/
import Derived.Test.YtiohainnpjikpaaDoorBun5
import Derived.Lib.Bytealg
import Derived.Lib.Small
import Derived.Sort.Statements
import Derived.Test.YtiohainnpjikpaaDoorBun1
import Derived.Lib.Split
import Derived.Lib.SplitLaws
import Derived.Lib.Replace
import Derived.Test.YtiohainnpjikpaaDoorBun6
import Derived.Lib.Strings
import Derived.WalkKit
import Derived.Lib.Hide
import Derived.Deep.Slices
import Derived.OpenShut
import Derived.Deep.Draws
import Derived.OwnWalk
import Derived.Laws.OwnMore
import Derived.Below
import Derived.Maps.AppendAt
/- Layer 10's mathematics: the library's comparisons, a sorted list made compact. -/
namespace EM
open Go
theorem cb_less : ∀ a b : List UInt8, Lib.compareBytes a b = if Op.bytesLess a b = true then -1 else if Op.bytesLess b a = true then 1 else 0
  | [], [] => by simp [Lib.compareBytes, Op.bytesLess]
  | [], _ :: _ => by simp [Lib.compareBytes, Op.bytesLess]
  | _ :: _, [] => by simp [Lib.compareBytes, Op.bytesLess]
  | a :: x, b :: y => by
    have ih := cb_less x y
    unfold Lib.compareBytes Op.bytesLess
    by_cases h1 : a < b
    · simp [h1]
    · by_cases h2 : b < a
      · have h3 : ¬ a = b := by intro e; subst e; exact absurd h2 (by simp)
        simp [h1, h2, h3]
      · have h3 : a = b := by
          have l1 : ¬ a.toNat < b.toNat := h1
          have l2 : ¬ b.toNat < a.toNat := h2
          exact UInt8.toNat_inj.1 (by omega)
        subst h3
        simp [h1, ih]
/-- the first that is not 0 -/
def orL : List Int → Int
  | [] => 0
  | x :: r => if x = 0 then orL r else x
theorem or_skip {l : List Int} {k : Nat} (h : k < l.length) (h0 : l[k] = 0) : orL (l.drop k) = orL (l.drop (k + 1)) := by
  rw [List.drop_eq_getElem_cons h, orL, if_pos h0]
theorem or_stop {l : List Int} {k : Nat} (h : k < l.length) (h0 : l[k] ≠ 0) : orL (l.drop k) = l[k] := by
  rw [List.drop_eq_getElem_cons h, orL, if_neg h0]
def four (a b : Ser) : List Int := [Lib.compareBytes a.prod.data.toList b.prod.data.toList, Lib.compareInt a.expiry b.expiry, Lib.compareInt a.kind b.kind, Lib.compareInt a.strike b.strike]
theorem ci_ord (x y : Int) : Lib.compareInt x y = ord x y := by unfold Lib.compareInt ord; rfl
theorem ord_zero {x y : Int} : ord x y = 0 ↔ x = y := by unfold ord; split <;> (try split) <;> constructor <;> intro h <;> omega
theorem cmp_or (a b : Ser) : orL (four a b) = cmp a b := by
  have e : Lib.compareBytes a.prod.data.toList b.prod.data.toList = if less a b = true then -1 else if less b a = true then 1 else 0 := by
    rw [cb_less]; unfold less; rw [Go.ByteArray.toList_eq, Go.ByteArray.toList_eq]
  unfold four
  rw [e]
  simp only [orL, ci_ord]
  unfold cmp
  by_cases h1 : less a b = true
  · rw [if_pos h1, if_pos h1, if_neg (by decide)]
  · rw [if_neg h1, if_neg h1]
    by_cases h2 : less b a = true
    · rw [if_pos h2, if_pos h2, if_neg (by decide)]
    · rw [if_neg h2, if_neg h2, if_pos rfl]
      by_cases h3 : a.expiry = b.expiry
      · rw [if_pos (ord_zero.2 h3), if_neg (show ¬ (a.expiry ≠ b.expiry) by simp [h3])]
        by_cases h4 : a.kind = b.kind
        · rw [if_pos (ord_zero.2 h4), if_neg (show ¬ (a.kind ≠ b.kind) by simp [h4])]
          by_cases h5 : a.strike = b.strike
          · rw [if_pos (ord_zero.2 h5), ord_zero.2 h5]
          · rw [if_neg (fun h => h5 (ord_zero.1 h))]
        · rw [if_neg (fun h => h4 (ord_zero.1 h)), if_pos h4]
      · rw [if_neg (fun h => h3 (ord_zero.1 h)), if_pos h3]

/-- the order that the sort asks for -/
def ltB (a b : Ser) : Bool := decide (cmp a b < 0)
theorem ltB_true {a b : Ser} : ltB a b = true ↔ lt a b := by
  unfold ltB
  rw [decide_eq_true_eq]
  rcases cmp_cases a b with ⟨h, g⟩ | ⟨h, g⟩ | ⟨h, g⟩
  · rw [h]; exact ⟨fun _ => g, fun _ => by decide⟩
  · rw [h]; subst g; exact ⟨fun h => absurd h (by decide), fun h => absurd h (lt_irrefl _)⟩
  · rw [h]; exact ⟨fun h => absurd h (by decide), fun h => absurd h (lt_asymm g)⟩
theorem ltB_false {a b : Ser} : ltB a b = false ↔ a = b ∨ lt b a := by
  rw [Bool.eq_false_iff, ne_eq, ltB_true]
  constructor
  · intro h
    rcases lt_tri a b with g | g | g
    · exact absurd g h
    · exact .inl g
    · exact .inr g
  · rintro (rfl | g)
    · exact lt_irrefl _
    · exact lt_asymm g
theorem swo : Go.Sort.SWO ltB where
  irrefl x := ltB_false.2 (.inl rfl)
  trans x y z h1 h2 := ltB_true.2 (lt_trans (ltB_true.1 h1) (ltB_true.1 h2))
  ntrans x y z h1 h2 := by
    rw [ltB_false] at *
    rcases h1 with rfl | h1
    · exact h2
    · rcases h2 with rfl | h2
      · exact .inr h1
      · exact .inr (lt_trans h2 h1)


/-- each run once: what stands so far, and one more -/
noncomputable def addL (out : List Ser) (s : Ser) : List Ser := if @decide (out.getLast? = some s) (Classical.propDecidable _) then out else out ++ [s]
noncomputable def cmpc (l : List Ser) : List Ser := l.foldl addL []
theorem addL_same {out : List Ser} {s : Ser} (h : out.getLast? = some s) : addL out s = out := by unfold addL; simp [h]
theorem addL_new {out : List Ser} {s : Ser} (h : out.getLast? ≠ some s) : addL out s = out ++ [s] := by unfold addL; simp [h]
theorem cmpc_snoc (l : List Ser) (s : Ser) : cmpc (l ++ [s]) = addL (cmpc l) s := by simp [cmpc]
theorem cmpc_last : ∀ (l : List Ser) (s : Ser), (cmpc (l ++ [s])).getLast? = some s := by
  intro l s
  rw [cmpc_snoc]
  by_cases h : (cmpc l).getLast? = some s
  · rw [addL_same h]; exact h
  · rw [addL_new h]; simp
theorem cmpc_take {l : List Ser} {k : Nat} (h : k < l.length) : cmpc (l.take (k + 1)) = addL (cmpc (l.take k)) l[k] := by
  rw [List.take_succ_eq_append_getElem h, cmpc_snoc]
theorem cmpc_last_take {l : List Ser} {k : Nat} (h0 : 0 < k) (h : k ≤ l.length) : (cmpc (l.take k)).getLast? = some (l[k - 1]'(by omega)) := by
  obtain ⟨j, rfl⟩ : ∃ j, k = j + 1 := ⟨k - 1, by omega⟩
  rw [List.take_succ_eq_append_getElem (by omega)]
  exact cmpc_last _ _
/-- the next is the same as the one ahead; it is another -/
theorem cmpc_same {l : List Ser} {k : Nat} (h0 : 0 < k) (h : k < l.length) (e : l[k] = l[k - 1]) : cmpc (l.take (k + 1)) = cmpc (l.take k) := by
  rw [cmpc_take h]
  exact addL_same (by rw [cmpc_last_take h0 (by omega), e])
theorem cmpc_other {l : List Ser} {k : Nat} (h0 : 0 < k) (h : k < l.length) (e : l[k] ≠ l[k - 1]) : cmpc (l.take (k + 1)) = cmpc (l.take k) ++ [l[k]] := by
  rw [cmpc_take h]
  refine addL_new ?_
  rw [cmpc_last_take h0 (by omega)]
  intro g
  injection g with g
  exact e g.symm
theorem cmpc_one {l : List Ser} (h : l.length ≤ 1) : cmpc l = l := by
  match l, h with
  | [], _ => rfl
  | [a], _ => simp [cmpc, addL]
theorem cmpc_len (l : List Ser) : ∀ k, k ≤ l.length → (cmpc (l.take k)).length ≤ k := by
  intro k
  induction k with
  | zero => intro _; simp [cmpc]
  | succ k ih =>
    intro h
    rw [cmpc_take (by omega)]
    have := ih (by omega)
    unfold addL
    split
    · omega
    · rw [List.length_append]; simp; omega
theorem cmpc_mem (l : List Ser) : ∀ k, k ≤ l.length → ∀ y, y ∈ cmpc (l.take k) ↔ y ∈ l.take k := by
  intro k
  induction k with
  | zero => intro _ y; simp [cmpc]
  | succ k ih =>
    intro h y
    have hk : k < l.length := by omega
    rw [cmpc_take hk, List.take_succ_eq_append_getElem hk, List.mem_append, List.mem_singleton]
    by_cases e : (cmpc (l.take k)).getLast? = some l[k]
    · rw [addL_same e, ih (by omega)]
      constructor
      · exact .inl
      · rintro (g | g)
        · exact g
        · rw [← ih (by omega), g]
          exact List.mem_of_getLast? e
    · rw [addL_new e, List.mem_append, List.mem_singleton, ih (by omega)]
theorem cmpc_asc (l : List Ser) (hs : ∀ i j (hi : i < l.length) (hj : j < l.length), i < j → ltB l[j] l[i] = false) : ∀ k, k ≤ l.length → asc (cmpc (l.take k)) ∧ (∀ y ∈ cmpc (l.take k), ∀ j (hj : j < l.length), k ≤ j → y = l[j] ∨ lt y l[j]) := by
  intro k
  induction k with
  | zero => intro _; exact ⟨by simp [cmpc, asc], by simp [cmpc]⟩
  | succ k ih =>
    intro h
    have hk : k < l.length := by omega
    obtain ⟨h1, h2⟩ := ih (by omega)
    rw [cmpc_take hk]
    have hn : ∀ j (hj : j < l.length), k + 1 ≤ j → l[k] = l[j] ∨ lt l[k] l[j] := by
      intro j hj hkj
      rcases ltB_false.1 (hs k j hk hj (by omega)) with g | g
      · exact .inl g.symm
      · exact .inr g
    by_cases e : (cmpc (l.take k)).getLast? = some l[k]
    · rw [addL_same e]
      exact ⟨h1, fun y hy j hj hkj => h2 y hy j hj (by omega)⟩
    · rw [addL_new e]
      have hlt : ∀ y ∈ cmpc (l.take k), lt y l[k] := by
        intro y hy
        rcases h2 y hy k hk (Nat.le_refl _) with g | g
        · exfalso
          -- y is the last one's equal, and nothing but the last one can be that
          subst g
          obtain ⟨i, hi, ei⟩ := List.getElem_of_mem hy
          by_cases hl : i = (cmpc (l.take k)).length - 1
          · apply e
            rw [List.getLast?_eq_getElem?, ← hl, List.getElem?_eq_getElem hi, ei]
          · have hlast := List.pairwise_iff_getElem.1 h1 i ((cmpc (l.take k)).length - 1) hi (by omega) (by omega)
            rw [ei] at hlast
            rcases h2 _ (List.getElem_mem (by omega : (cmpc (l.take k)).length - 1 < (cmpc (l.take k)).length)) k hk (Nat.le_refl _) with g | g
            · rw [g] at hlast; exact lt_irrefl _ hlast
            · exact lt_asymm g hlast
        · exact g
      refine ⟨?_, ?_⟩
      · unfold asc
        rw [List.pairwise_append]
        refine ⟨h1, by simp, ?_⟩
        intro a ha b hb
        rw [List.mem_singleton.1 hb]
        exact hlt a ha
      · intro y hy j hj hkj
        rcases List.mem_append.1 hy with hy | hy
        · exact h2 y hy j hj (by omega)
        · rw [List.mem_singleton.1 hy]; exact hn j hj hkj
/-- a sorted permutation made compact is the list in order, each once -/
theorem cmpc_sort {l k : List Ser} (hp : k.Perm l) (hs : ∀ i j (hi : i < k.length) (hj : j < k.length), i < j → ltB k[j] k[i] = false) : cmpc k = sortL l := by
  have h1 := (cmpc_asc k hs k.length (Nat.le_refl _)).1
  have h2 := cmpc_mem k k.length (Nat.le_refl _)
  rw [List.take_length] at h1 h2
  exact sort_of_asc h1 (fun y => by rw [h2, hp.mem_iff])
theorem cmpc_size (l : List Ser) : (cmpc l).length ≤ l.length := by
  have := cmpc_len l l.length (Nat.le_refl _)
  rwa [List.take_length] at this
end EM

/- Layer 10's mathematics: a text cut at a byte as the library cuts it, and a byte struck out. -/
namespace EM
open Go
theorem step_ps (b : UInt8) (l : List UInt8) : ∀ (ps : List (List UInt8)) (q : List UInt8), l.foldl (WM.step b) (ps, q) = (ps ++ (l.foldl (WM.step b) ([], q)).1, (l.foldl (WM.step b) ([], q)).2) := by
  induction l with
  | nil => intro ps q; simp
  | cons c l ih =>
    intro ps q
    rw [List.foldl_cons, List.foldl_cons]
    by_cases h : c = b
    · have e1 : WM.step b (ps, q) c = (ps ++ [q], []) := by simp [WM.step, h]
      have e2 : WM.step b ([], q) c = ([q], []) := by simp [WM.step, h]
      rw [e1, e2, ih (ps ++ [q]), ih [q]]
      simp
    · have e1 : WM.step b (ps, q) c = (ps, q ++ [c]) := by simp [WM.step, h]
      have e2 : WM.step b ([], q) c = ([], q ++ [c]) := by simp [WM.step, h]
      rw [e1, e2, ih ps]
theorem pieces_no {b : UInt8} {l : List UInt8} (h : b ∉ l) : WM.pieces b l = [l] := by unfold WM.pieces; rw [WM.run_no h]; rfl
theorem pieces_at {b : UInt8} {x : List UInt8} (h : b ∉ x) (y : List UInt8) : WM.pieces b (x ++ b :: y) = x :: WM.pieces b y := by
  have e : WM.run b (x ++ b :: y) = ([x] ++ (WM.run b y).1, (WM.run b y).2) := by
    unfold WM.run
    rw [List.foldl_append, List.foldl_cons]
    have e1 : x.foldl (WM.step b) ([], []) = ([], x) := WM.run_no h
    rw [e1]
    have e2 : WM.step b ([], x) b = ([x], []) := by simp [WM.step]
    rw [e2, step_ps]
  unfold WM.pieces
  rw [e]; rfl
theorem pieces_pos (b : UInt8) (l : List UInt8) : 0 < (WM.pieces b l).length := by unfold WM.pieces; simp
theorem index_no {c : UInt8} : ∀ {s : List UInt8}, c ∉ s → Lib.index s [c] = -1 := by
  intro s
  induction s with
  | nil => intro _; rfl
  | cons b l ih =>
    intro h
    have h1 : ¬ c = b := fun e => h (by simp [e])
    have h2 : c ∉ l := fun e => h (by simp [e])
    unfold Lib.index
    rw [ih h2]
    simp [List.isPrefixOf, h1]
theorem index_at {c : UInt8} : ∀ {x : List UInt8}, c ∉ x → ∀ y, Lib.index (x ++ c :: y) [c] = x.length := by
  intro x
  induction x with
  | nil => intro _ y; simp [Lib.index, List.isPrefixOf]
  | cons b l ih =>
    intro h y
    have h1 : ¬ c = b := fun e => h (by simp [e])
    have h2 : c ∉ l := fun e => h (by simp [e])
    rw [List.cons_append]
    unfold Lib.index
    rw [ih h2]
    have h3 : ¬ ((l.length : Int) == -1) = true := by simp
    rw [if_neg (by simp [List.isPrefixOf, h1]), if_neg h3]
    simp
theorem split_pieces (c : UInt8) : ∀ (k : Nat) (s : List UInt8), ((WM.pieces c s).length ≤ k + 1 → Lib.splitK [c] 0 k s = WM.pieces c s) ∧ (k + 1 ≤ (WM.pieces c s).length → (Lib.splitK [c] 0 k s).length = k + 1) := by
  intro k
  induction k with
  | zero =>
    intro s
    refine ⟨fun h => ?_, fun _ => rfl⟩
    by_cases hc : c ∈ s
    · obtain ⟨x, y, rfl, hx⟩ := List.eq_append_cons_of_mem hc
      rw [pieces_at hx] at h
      have := pieces_pos c y
      simp at h
      rw [h] at this; simp at this
    · rw [pieces_no hc]; rfl
  | succ k ih =>
    intro s
    by_cases hc : c ∈ s
    · obtain ⟨x, y, rfl, hx⟩ := List.eq_append_cons_of_mem hc
      have e : Lib.splitK [c] 0 (k + 1) (x ++ c :: y) = x :: Lib.splitK [c] 0 k y := by
        have h3 : ¬ (Lib.index (x ++ c :: y) [c] == -1) = true := by rw [index_at hx]; simp
        rw [Lib.splitK, if_neg h3, index_at hx]
        simp
      rw [e, pieces_at hx]
      obtain ⟨h1, h2⟩ := ih y
      refine ⟨fun h => ?_, fun h => ?_⟩
      · rw [h1 (by simpa using h)]
      · rw [List.length_cons, h2 (by simpa using h)]
    · have e : Lib.splitK [c] 0 (k + 1) s = [s] := by rw [Lib.splitK, if_pos (by rw [index_no hc]; rfl)]
      rw [e, pieces_no hc]
      exact ⟨fun _ => rfl, fun h => absurd h (by simp)⟩
theorem pieces_short (c : UInt8) : ∀ (n : Nat) (s : List UInt8), s.length ≤ n → (WM.pieces c s).length ≤ s.length + 1 := by
  intro n
  induction n with
  | zero =>
    intro s h
    have : s = [] := List.eq_nil_of_length_eq_zero (by omega)
    subst this
    rw [pieces_no (by simp)]; simp
  | succ n ih =>
    intro s h
    by_cases hc : c ∈ s
    · obtain ⟨x, y, rfl, hx⟩ := List.eq_append_cons_of_mem hc
      rw [pieces_at hx]
      have hl : y.length ≤ n := by simp at h; omega
      have := ih y hl
      simp; omega
    · rw [pieces_no hc]; simp
/-- cut in four at most: three pieces, and no more -/
theorem split_three (c : UInt8) (s : List UInt8) : ((Lib.splitK [c] 0 (min 4 (s.length + 1) - 1) s).length = 3 ↔ (WM.pieces c s).length = 3) ∧ ((WM.pieces c s).length = 3 → Lib.splitK [c] 0 (min 4 (s.length + 1) - 1) s = WM.pieces c s) ∧ (Lib.splitK [c] 0 (min 4 (s.length + 1) - 1) s).length ≤ min 4 (s.length + 1) := by
  have hb := pieces_short c s.length s (Nat.le_refl _)
  generalize hk : min 4 (s.length + 1) - 1 = k
  have hk1 : k + 1 = min 4 (s.length + 1) := by omega
  obtain ⟨h1, h2⟩ := split_pieces c k s
  by_cases h : (WM.pieces c s).length ≤ k + 1
  · rw [h1 h]
    exact ⟨Iff.rfl, fun _ => rfl, by omega⟩
  · have := h2 (by omega)
    refine ⟨?_, ?_, by omega⟩
    · rw [this]; constructor <;> intro g <;> omega
    · intro g; omega
theorem strike_out (c : UInt8) : ∀ (k : Nat) (s : List UInt8), Lib.count s [c] = k → Lib.replaceK [c] [] k s = s.filter (fun b => !(b == c)) := by
  intro k
  induction k with
  | zero =>
    intro s h
    rw [Lib.count_one, List.count_eq_zero] at h
    rw [Lib.replaceK]
    rw [List.filter_eq_self.2]
    intro a ha
    simp only [Bool.not_eq_true', beq_eq_false_iff_ne, ne_eq]
    intro e; subst e; exact h ha
  | succ k ih =>
    intro s h
    have hc : c ∈ s := by
      rw [Lib.count_one] at h
      exact List.count_pos_iff.1 (by omega)
    obtain ⟨x, y, rfl, hx⟩ := List.eq_append_cons_of_mem hc
    rw [Lib.replaceK_hit [c] [] k _ x.length (index_at hx y)]
    have hy : Lib.count y [c] = k := by
      rw [Lib.count_one] at h ⊢
      rw [List.count_append, List.count_cons_self, List.count_eq_zero.2 hx] at h
      omega
    have e1 : (x ++ c :: y).take x.length = x := by simp
    have e2 : (x ++ c :: y).drop (x.length + [c].length) = y := by simp
    rw [e1, e2, ih y hy, List.filter_append, List.filter_cons]
    have e3 : x.filter (fun b => !(b == c)) = x := by
      rw [List.filter_eq_self]
      intro a ha
      simp only [Bool.not_eq_true', beq_eq_false_iff_ne, ne_eq]
      intro e; subst e; exact hx ha
    rw [e3]
    simp
theorem replace_out (c : UInt8) (s : List UInt8) : Lib.replaceAll s [c] [] = s.filter (fun b => !(b == c)) := by
  unfold Lib.replaceAll Lib.replace
  rw [if_neg (by simp)]
  unfold Lib.replaceNum
  rw [if_pos (.inl (by decide))]
  exact strike_out c _ s rfl
end EM

/- Layer 10's mathematics: eight digits as a date, the last part's kind, a date without its strokes. -/
namespace EM
open Go
set_option linter.unusedSimpArgs false
theorem strokes (y m d : Int) : Lib.replaceAll (DM.dateL y m d) [45] [] = d8 y m d := by
  have hc : ∀ n, (DM.ch n == 45) = false := fun n => by
    have := DM.ch_isD n
    unfold DM.isD at this
    rw [beq_eq_false_iff_ne]
    intro e
    rw [e] at this
    revert this; decide
  rw [replace_out]
  unfold DM.dateL d8
  simp [hc]
def tenL (b : List UInt8) : List UInt8 := (b.take 4 ++ [45]) ++ (b.take 6).drop 4 ++ [45] ++ b.drop 6
theorem ten_digits {b : List UInt8} (h8 : b.length = 8) (hd : b.all WM.dig = true) : DM.parE (tenL b) = DM.ofE (WM.val b / 10000) (WM.val b / 100 % 100) (WM.val b % 100) ∧ DM.parN (tenL b) = DM.ofN (WM.val b / 10000) (WM.val b / 100 % 100) (WM.val b % 100) := by
  obtain ⟨a, b', c, d, e, f, g, k, rfl⟩ := eight b h8
  simp only [List.all_cons, List.all_nil, Bool.and_eq_true, Bool.and_true, isD_dig] at hd
  obtain ⟨h1, h2, h3, h4, h5, h6, h7, h9⟩ := hd
  have ex : tenL [a, b', c, d, e, f, g, k] = [a, b', c, d, 45, e, f, 45, g, k] := rfl
  have hf : DM.formB (tenL [a, b', c, d, e, f, g, k]) = true := DM.formB_true.2 ⟨a, b', c, d, e, f, g, k, ex, h1, h2, h3, h4, h5, h6, h7, h9⟩
  have r1 := DM.dv_range h1; have r2 := DM.dv_range h2; have r3 := DM.dv_range h3; have r4 := DM.dv_range h4; have r5 := DM.dv_range h5; have r6 := DM.dv_range h6; have r7 := DM.dv_range h7; have r8 := DM.dv_range h9
  have y1 : DM.yearOf (tenL [a, b', c, d, e, f, g, k]) = 1000 * DM.dv a + 100 * DM.dv b' + 10 * DM.dv c + DM.dv d := by
    show DM.dgo 0 [a, b', c, d] = _
    simp only [DM.dgo, h1, h2, h3, h4, if_true, if_pos]; omega
  have y2 : DM.monthOf (tenL [a, b', c, d, e, f, g, k]) = 10 * DM.dv e + DM.dv f := by
    show DM.dgo 0 [e, f] = _
    simp only [DM.dgo, h5, h6, if_true, if_pos]; omega
  have y3 : DM.dayIn (tenL [a, b', c, d, e, f, g, k]) = 10 * DM.dv g + DM.dv k := by
    show DM.dgo 0 [g, k] = _
    simp only [DM.dgo, h7, h9, if_true, if_pos]; omega
  have v := val8 a b' c d e f g k
  have z1 : WM.val [a, b', c, d, e, f, g, k] / 10000 = 1000 * DM.dv a + 100 * DM.dv b' + 10 * DM.dv c + DM.dv d := by rw [v]; omega
  have z2 : WM.val [a, b', c, d, e, f, g, k] / 100 % 100 = 10 * DM.dv e + DM.dv f := by rw [v]; omega
  have z3 : WM.val [a, b', c, d, e, f, g, k] % 100 = 10 * DM.dv g + DM.dv k := by rw [v]; omega
  unfold DM.parE DM.parN
  rw [if_pos hf, if_pos hf, y1, y2, y3, z1, z2, z3]
  exact ⟨rfl, rfl⟩
theorem ten_others {b : List UInt8} (h8 : b.length = 8) (hd : b.all WM.dig = false) : DM.parE (tenL b) = 5 ∧ DM.parN (tenL b) = 0 := by
  obtain ⟨a, b', c, d, e, f, g, k, rfl⟩ := eight b h8
  have hf : DM.formB (tenL [a, b', c, d, e, f, g, k]) = false := by
    rw [DM.formB_false]
    rintro ⟨a1, b1, c1, d1, e1, f1, g1, k1, ex, h1, h2, h3, h4, h5, h6, h7, h9⟩
    have ex2 : tenL [a, b', c, d, e, f, g, k] = [a, b', c, d, 45, e, f, 45, g, k] := rfl
    rw [ex2] at ex
    simp only [List.cons.injEq, and_true, true_and] at ex
    obtain ⟨rfl, rfl, rfl, rfl, rfl, rfl, rfl, rfl⟩ := ex
    have : ([a, b', c, d, e, f, g, k] : List UInt8).all WM.dig = true := by
      simp only [List.all_cons, List.all_nil, Bool.and_eq_true, Bool.and_true, isD_dig]
      exact ⟨h1, h2, h3, h4, h5, h6, h7, h9⟩
    rw [this] at hd; cases hd
  unfold DM.parE DM.parN
  rw [hf]
  exact ⟨rfl, rfl⟩
theorem of_cases (y m d : Int) : DM.ofE y m d = 0 ∨ DM.ofE y m d = 15 := by unfold DM.ofE; split <;> simp
theorem pre_one {b : UInt8} (hb : b ≠ 0) (c : List UInt8) : Lib.hasPrefix c [b] = decide (c.headD 0 = b) := by
  unfold Lib.hasPrefix
  cases c with
  | nil => simp [List.isPrefixOf]; exact fun e => hb e.symm
  | cons x r =>
    by_cases h : x = b
    · simp [List.isPrefixOf, h]
    · have h' : ¬ b = x := fun e => h e.symm
      simp [List.isPrefixOf, h, h']
theorem trim_one {b : UInt8} (c : List UInt8) (h : Lib.hasPrefix c [b] = true) : Lib.trimPrefix c [b] = c.tail := by unfold Lib.trimPrefix; rw [if_pos h]; simp
/-- the last part's kind, what follows its letter, and whether it has one -/
def ckK (c : List UInt8) : Int := if c = [102] then 1 else if c.headD 0 = 99 then 2 else if c.headD 0 = 112 then 3 else 0
def ckR (c : List UInt8) : List UInt8 := if c = [102] then [] else if c.headD 0 = 99 ∨ c.headD 0 = 112 then c.tail else []
def ckB (c : List UInt8) : Bool := decide (c = [102] ∨ c.headD 0 = 99 ∨ c.headD 0 = 112)
end EM

/- Slices of records whose fields are numbers, texts and bools (records in records too), over any program: what a law's argument reads as, and its cells. -/
namespace Go.Recs
open Go.ChangeShapes Go.WideShapes Go.RowKit Go.Deep
set_option linter.unusedVariables false

/-- one cell's kind -/
inductive Leaf where
  | int (k : IntKind)
  | str
  | bool
def Leaf.ok : Leaf → Value → Prop
  | .int k, v => ∃ n, v = .int k n ∧ (Lit.int k n).wf = true
  | .str, v => ∃ s : ByteArray, v = .string s ∧ s.size ≤ maxLen
  | .bool, v => ∃ b, v = .bool b
def okAll : List Leaf → List Value → Prop
  | [], [] => True
  | l :: ls, v :: vs => l.ok v ∧ okAll ls vs
  | _, _ => False
theorem okAll_append : ∀ {a b : List Leaf} {x y : List Value}, okAll a x → okAll b y → okAll (a ++ b) (x ++ y) := by
  intro a
  induction a with
  | nil =>
    intro b x y hx hy
    cases x with
    | nil => exact hy
    | cons v x => exact hx.elim
  | cons l a ih =>
    intro b x y hx hy
    cases x with
    | nil => exact hx.elim
    | cons v x => exact ⟨hx.1, ih hx.2 hy⟩
theorem okAll_len : ∀ {a : List Leaf} {x : List Value}, okAll a x → x.length = a.length := by
  intro a
  induction a with
  | nil =>
    intro x h
    cases x with
    | nil => rfl
    | cons v x => exact h.elim
  | cons l a ih =>
    intro x h
    cases x with
    | nil => exact h.elim
    | cons v x => simp [ih h.2]

def fieldsL (P : Program) (g : TypeId → Option (List Leaf)) : Nat → List Field → Option (List Leaf)
  | _, [] => some []
  | off, f :: fs =>
    match g f.type with
    | none => none
    | some l => if f.offset = off ∧ P.cellsOf f.type = l.length then (fieldsL P g (off + l.length) fs).map (l ++ ·) else none
/-- the cells of a type, by kind -/
def leafs (P : Program) : Nat → TypeId → Option (List Leaf)
  | 0, _ => none
  | n + 1, t =>
    match P.underlying t with
    | some (.int k) => some [.int k]
    | some .string => some [.str]
    | some .bool => some [.bool]
    | some (.struct fs) => fieldsL P (leafs P n) 0 fs.toList
    | _ => none

section
variable {H : Type} {enc : TypeId × Value → H} {P : Program} {w : World} {base : Nat} {spare : Nat → Bool} {held : Bool}

theorem fields_ok {g : TypeId → Option (List Leaf)} {k : Nat} {cs : List Value}
    (hg : ∀ t ls cs' y, g t = some ls → cs'.length = ls.length → DataW.trod enc P w base spare held k t cs' = some y → okAll ls cs') :
    ∀ (fs : List Field) (off : Nat) (ls : List Leaf), fieldsL P g off fs = some ls → (∀ f ∈ fs, ∃ y, DataW.trod enc P w base spare held k f.type ((cs.drop f.offset).take (P.cellsOf f.type)) = some y) →
      cs.length = off + ls.length → okAll ls (cs.drop off) := by
  intro fs
  induction fs with
  | nil =>
    intro off ls h _ hl
    simp [fieldsL] at h
    subst h
    rw [List.drop_of_length_le (by simp at hl; omega)]
    trivial
  | cons f fs ih =>
    intro off ls h hr hl
    unfold fieldsL at h
    cases hgf : g f.type with
    | none => rw [hgf] at h; cases h
    | some l =>
      rw [hgf] at h
      by_cases hc : f.offset = off ∧ P.cellsOf f.type = l.length
      · simp only [hc, and_self, if_true] at h
        obtain ⟨m, hm, rfl⟩ := Option.map_eq_some_iff.1 h
        obtain ⟨y, hy⟩ := hr f (by simp)
        rw [hc.1, hc.2] at hy
        rw [List.length_append] at hl
        have h1 := hg f.type l _ y hgf (by rw [List.length_take, List.length_drop]; omega) hy
        have h2 := ih (off + l.length) m hm (fun f' hf' => hr f' (by simp [hf'])) (by omega)
        have e : cs.drop off = (cs.drop off).take l.length ++ cs.drop (off + l.length) := by
          rw [← List.drop_drop, List.take_append_drop]
        rw [e]
        exact okAll_append h1 h2
      · simp only [hc, if_false] at h
        cases h
theorem leafs_ok : ∀ (n : Nat) (t : TypeId) (ls : List Leaf), leafs P n t = some ls → ∀ (fuel : Nat) (cs : List Value) (x : DataW H × List MemPlace), cs.length = ls.length →
    DataW.trod enc P w base spare held fuel t cs = some x → okAll ls cs := by
  intro n
  induction n with
  | zero => intro t ls h; cases h
  | succ n ih =>
    intro t ls h fuel cs x hl hx
    unfold leafs at h
    split at h
    · rename_i k hu
      injection h with h
      subst h
      obtain ⟨m, rfl, _, hw⟩ := DataW.trod_int hu hx
      exact ⟨⟨m, rfl, hw⟩, trivial⟩
    · rename_i hu
      injection h with h
      subst h
      obtain ⟨s, rfl, _, hw⟩ := DataW.trod_string hu hx
      exact ⟨⟨s, rfl, hw⟩, trivial⟩
    · rename_i hu
      injection h with h
      subst h
      obtain ⟨b, rfl, _⟩ := DataW.trod_bool hu hx
      exact ⟨⟨b, rfl⟩, trivial⟩
    · rename_i fs hu
      obtain ⟨xs, k, rfl, _, _, hxl, hf⟩ := DataW.trod_struct hu hx
      have := fields_ok (enc := enc) (w := w) (base := base) (spare := spare) (held := held) (k := k) (cs := cs) (fun t ls cs' y hg hl hy => ih t ls hg k cs' y hl hy) fs.toList 0 ls h (fun f hf' => by
        obtain ⟨i, hi, e⟩ := List.getElem_of_mem hf'
        have hi' : i < fs.size := by simpa using hi
        have hfi : fs[i]? = some f := by rw [Array.getElem?_eq_getElem hi']; simpa using e
        have := hf i f hfi
        rw [List.getElem?_eq_getElem (by omega)] at this
        exact ⟨_, this⟩) (by omega)
      simpa using this
    · cases h

/-- the slice at A holds the records rows, each of sz cells -/
def Recs (w : World) (A : Option Addr) (sz : Nat) (rows : List (List Value)) : Prop :=
  rows.length ≤ maxLen ∧ (∀ r ∈ rows, r.length = sz) ∧
  (rows = [] ∨ ∃ b off, A = some ⟨b, off, none⟩ ∧ b < w.heap.size ∧ ∀ i j, i < rows.length → j < sz → w.cell? ⟨b, off + (i * sz + j), none⟩ = (rows.getD i [])[j]?)

theorem Recs.nil (w : World) (A : Option Addr) (sz : Nat) : Recs w A sz [] := ⟨by simp, by simp, .inl rfl⟩
theorem Recs.len {w : World} {A : Option Addr} {sz : Nat} {rows : List (List Value)} (h : Recs w A sz rows) : rows.length ≤ 9223372036854775807 := h.1
theorem Recs.keep {w w' : World} {A : Option Addr} {sz : Nat} {rows : List (List Value)} (h : Recs w A sz rows) (hz : w.heap.size ≤ w'.heap.size)
    (hk : ∀ b o, b < w.heap.size → w'.cell? ⟨b, o, none⟩ = w.cell? ⟨b, o, none⟩) : Recs w' A sz rows := by
  refine ⟨h.1, h.2.1, ?_⟩
  rcases h.2.2 with h | ⟨b, off, rfl, hb, hc⟩
  · exact .inl h
  · exact .inr ⟨b, off, rfl, by omega, fun i j hi hj => by rw [hk _ _ hb]; exact hc i j hi hj⟩
theorem Recs.below {w w' : World} {A : Option Addr} {sz : Nat} {rows : List (List Value)} (h : Recs w A sz rows) (hb : Below w.heap.size w w') : Recs w' A sz rows :=
  h.keep hb.size fun b o hlt => hb.cell (p := ⟨b, o, none⟩) hlt
theorem Recs.drewN {w : World} {A : Option Addr} {sz : Nat} {rows : List (List Value)} (h : Recs w A sz rows) (n : Nat) : Recs (w.drewN n) A sz rows := h
/-- record k: where it lies, and its cells -/
theorem Recs.get {w : World} {A : Option Addr} {sz : Nat} {rows : List (List Value)} (h : Recs w A sz rows) {k : Nat} (hk : k < rows.length) :
    ∃ b off, A = some ⟨b, off, none⟩ ∧ b < w.heap.size ∧ ∀ j, j < sz → w.cell? ⟨b, off + (k * sz + j), none⟩ = (rows.getD k [])[j]? := by
  rcases h.2.2 with h | ⟨b, off, rfl, hb, hc⟩
  · subst h; simp at hk
  · exact ⟨b, off, rfl, hb, fun j hj => hc k j hk hj⟩

theorem add_at (b off n : Nat) : (⟨b, off, none⟩ : Addr).add n = ⟨b, off + n, none⟩ := by
  unfold Addr.add
  by_cases h0 : n = 0
  · subst h0; simp
  · simp [h0]

theorem open_recs {t e : TypeId} {sz n : Nat} {ls : List Leaf} {v : Value} {d : DataW H} {p : List MemPlace} {b0 : Nat} {r : Reach} (ht : P.underlying t = some (.slice e)) (hls : leafs P n e = some ls) (hsz : P.cellsOf e = sz) (hlz : ls.length = sz) (h0 : 0 < sz)
    (hval : Value.okWide P w r b0 t v) (h : DataW.Trod enc P w base spare held t v d p) :
    ∃ A cap rows, v = .slice A (List.length rows) cap ∧ Recs w A sz rows ∧ (∀ r ∈ rows, okAll ls r) ∧ rows.length ≤ cap := by
  obtain ⟨a, len, cap, rfl⟩ := okWide_slice ht hval
  obtain ⟨fuel, hf⟩ := h
  rcases open_slice ht hf with ⟨hcs, _⟩ | ⟨x, l, c, m, k, D, Pl, hcs, hb, hl, hm, hmm, hx, hrow⟩
  · simp [Value.cells] at hcs
    obtain ⟨rfl, rfl, rfl⟩ := hcs
    exact ⟨none, 0, [], rfl, Recs.nil _ _ _, by simp, by simp⟩
  · simp [Value.cells] at hcs
    obtain ⟨rfl, rfl, rfl⟩ := hcs
    have hlm : len ≤ m := by rw [hmm]; split <;> omega
    rw [hsz] at hrow
    obtain ⟨R, hR⟩ := choose_lt (α := List Value) (n := len) (p := fun i cs => w.cells? base (x.add (i * sz)) sz = some cs ∧ okAll ls cs) (fun i hi => by
      obtain ⟨cs', h1, h2⟩ := hrow i (by omega)
      obtain ⟨_, hlen, _⟩ := World.cells?_some h1
      exact ⟨cs', h1, leafs_ok n e ls hls k cs' _ (by omega) h2⟩)
    have hlen : ((List.range len).map R).length = len := by simp
    refine ⟨some x, cap, (List.range len).map R, by rw [hlen], ?_, ?_, by rw [hlen]; exact hl⟩
    · refine ⟨by rw [hlen]; omega, ?_, ?_⟩
      · intro q hq
        obtain ⟨i, hi, rfl⟩ := List.mem_map.1 hq
        have := okAll_len (hR i (List.mem_range.1 hi)).2
        omega
      · rcases Nat.eq_zero_or_pos len with hz | hz
        · subst hz; exact .inl (by simp)
        · obtain ⟨b, off, spot⟩ := x
          obtain ⟨_, hl0, hc0⟩ := World.cells?_some (hR 0 hz).1
          have hcc := hc0 0 (by omega)
          rw [List.getElem?_eq_getElem (show 0 < (R 0).length by omega)] at hcc
          have hspot : spot = none := by simpa [Addr.add] using World.cell?_spot hcc
          subst hspot
          rw [Deep.add_add, add_at] at hcc
          refine .inr ⟨b, off, rfl, World.block_lt_of_cell? _ _ hcc, fun i j hi hj => ?_⟩
          have hi' : i < len := by rw [hlen] at hi; exact hi
          obtain ⟨_, hli, hci⟩ := World.cells?_some (hR i hi').1
          have := hci j (by omega)
          rw [Deep.add_add, add_at] at this
          rw [this]
          simp [List.getD, hi']
    · intro q hq
      obtain ⟨i, hi, rfl⟩ := List.mem_map.1 hq
      exact (hR i (List.mem_range.1 hi)).2

/-- records by a type of one's own -/
theorem typed {α : Type} {ls : List Leaf} (f : α → List Value) (Q : α → Prop) (hf : ∀ r, okAll ls r → ∃ a, r = f a ∧ Q a) : ∀ (rows : List (List Value)), (∀ r ∈ rows, okAll ls r) → ∃ l : List α, rows = l.map f ∧ ∀ a ∈ l, Q a := by
  intro rows
  induction rows with
  | nil => intro _; exact ⟨[], rfl, by simp⟩
  | cons r rows ih =>
    intro h
    obtain ⟨a, e, q⟩ := hf r (h r (by simp))
    obtain ⟨l, e2, q2⟩ := ih (fun r' hr' => h r' (by simp [hr']))
    refine ⟨a :: l, by rw [List.map_cons, e, e2], ?_⟩
    intro b hb
    rcases List.mem_cons.1 hb with rfl | hb
    · exact q
    · exact q2 b hb
end
end Go.Recs

/- Slices of records that the call itself makes, and a record as a law's argument, over any program. -/
namespace Go.Recs
open Go.ChangeShapes Go.WideShapes Go.RowKit Go.Deep
set_option linter.unusedVariables false

theorem flat_len {sz : Nat} : ∀ {rows : List (List Value)}, (∀ r ∈ rows, r.length = sz) → rows.flatten.length = rows.length * sz := by
  intro rows
  induction rows with
  | nil => intro _; simp
  | cons r rows ih =>
    intro h
    rw [List.flatten_cons, List.length_append, ih (fun q hq => h q (by simp [hq])), h r (by simp), List.length_cons, Nat.succ_mul]
    omega
theorem flat_at {sz : Nat} : ∀ {rows : List (List Value)}, (∀ r ∈ rows, r.length = sz) → ∀ i j, i < rows.length → j < sz → rows.flatten[i * sz + j]? = (rows.getD i [])[j]? := by
  intro rows
  induction rows with
  | nil => intro _ i j hi; simp at hi
  | cons r rows ih =>
    intro h i j hi hj
    have hr := h r (by simp)
    rw [List.flatten_cons]
    cases i with
    | zero =>
      rw [Nat.zero_mul, Nat.zero_add, List.getElem?_append_left (by omega)]
      rfl
    | succ i =>
      rw [Nat.succ_mul, List.getElem?_append_right (by omega), hr]
      rw [show i * sz + sz + j - sz = i * sz + j by omega, ih (fun q hq => h q (by simp [hq])) i j (by simpa using hi) hj]
      rfl

/-- the slice v, in memory from block B on, of records of type t, holds the rows -/
def OwnR (w : World) (B : Nat) (t : TypeId) (sz : Nat) (v : Value) (rows : List (List Value)) : Prop := (∀ r ∈ rows, r.length = sz) ∧ w.ownsRow B t sz v rows.length rows.flatten
section
variable {w w' : World} {B : Nat} {t : TypeId} {sz : Nat} {v : Value} {rows : List (List Value)}
theorem OwnR.nil (w : World) (B : Nat) (t : TypeId) (sz : Nat) : OwnR w B t sz (.slice none 0 0) [] := ⟨by simp, World.ownsRow_nil _ _ _ _⟩
theorem OwnR.form (h : OwnR w B t sz v rows) : (v = .slice none 0 0 ∧ rows = []) ∨ ∃ g cap, v = .slice (some ⟨g, 0, none⟩) rows.length cap ∧ B ≤ g ∧ g < w.heap.size ∧ rows.length ≤ cap := by
  rcases h.2.2 with ⟨rfl, h0⟩ | ⟨g, cap, cur, rfl, hB, hh, hn, _⟩
  · exact .inl ⟨rfl, List.eq_nil_of_length_eq_zero h0⟩
  · refine .inr ⟨g, cap, rfl, hB, ?_, hn⟩
    rcases Nat.lt_or_ge g w.heap.size with hlt | hge
    · exact hlt
    · rw [Array.getElem?_eq_none hge] at hh; cases hh
theorem OwnR.len (h : OwnR w B t sz v rows) : rows.length ≤ maxLen := by
  rcases h.2.2 with ⟨_, h0⟩ | ⟨g, cap, cur, _, _, _, hn, hm, _⟩
  · rw [h0]; exact Nat.zero_le _
  · exact Nat.le_trans hn hm
/-- its cells -/
theorem OwnR.cell {g n cap : Nat} (h : OwnR w B t sz (.slice (some ⟨g, 0, none⟩) n cap) rows) {i j : Nat} (hi : i < rows.length) (hj : j < sz) : w.cell? ⟨g, i * sz + j, none⟩ = (rows.getD i [])[j]? := by
  have hn : n = rows.length := by
    rcases h.2.2 with ⟨h0, _⟩ | ⟨g', cap', cur, h0, _⟩
    · cases h0
    · injection h0
  subst hn
  have hlt : i * sz + j < rows.length * sz := by
    have : (i + 1) * sz ≤ rows.length * sz := Nat.mul_le_mul_right _ (by omega)
    rw [Nat.succ_mul] at this
    omega
  rw [World.ownsRow.cellAt h.2 _ hlt]
  exact flat_at h.1 i j hi hj
theorem OwnR.recs (h : OwnR w B t sz v rows) : ∃ A cap, v = .slice A rows.length cap ∧ Recs w A sz rows ∧ rows.length ≤ cap := by
  rcases h.form with ⟨rfl, rfl⟩ | ⟨g, cap, rfl, hB, hg, hc⟩
  · exact ⟨none, 0, rfl, Recs.nil _ _ _, by simp⟩
  · refine ⟨_, cap, rfl, ⟨h.len, h.1, .inr ⟨g, 0, rfl, hg, fun i j hi hj => ?_⟩⟩, hc⟩
    rw [Nat.zero_add]
    exact h.cell hi hj
theorem OwnR.kept (h : OwnR w B t sz v rows) (hb : ∀ g, B ≤ g → g < w.heap.size → w'.heap[g]? = w.heap[g]?) : OwnR w' B t sz v rows := by
  refine ⟨h.1, h.2.1, ?_⟩
  rcases h.2.2 with h0 | ⟨g, cap, cur, hv, hB, hh, r⟩
  · exact .inl h0
  · refine .inr ⟨g, cap, cur, hv, hB, ?_, r⟩
    rcases Nat.lt_or_ge g w.heap.size with hlt | hge
    · rw [hb g hB hlt]; exact hh
    · rw [Array.getElem?_eq_none hge] at hh; cases hh
theorem OwnR.below (h : OwnR w B t sz v rows) (hb : Below w.heap.size w w') : OwnR w' B t sz v rows := h.kept fun g _ hg => hb.block g hg
theorem OwnR.alloc (h : OwnR w B t sz v rows) (o : Obj) : OwnR (w.alloc o) B t sz v rows := ⟨h.1, World.ownsRow.alloc h.2 o⟩
theorem OwnR.drewN (h : OwnR w B t sz v rows) (n : Nat) : OwnR (w.drewN n) B t sz v rows := h
theorem OwnR.block (h : OwnR w B t sz v rows) : ∀ k, v.ownBlock = some k → B ≤ k := fun k hk => (World.ownsRow.lt h.2 k hk).1
theorem OwnR.lower {B' : Nat} (h : OwnR w B t sz v rows) (hB : B' ≤ B) : OwnR w B' t sz v rows := by
  refine ⟨h.1, h.2.1, ?_⟩
  rcases h.2.2 with h0 | ⟨g, cap, cur, hv, hg, r⟩
  · exact .inl h0
  · exact .inr ⟨g, cap, cur, hv, Nat.le_trans hB hg, r⟩
/-- a slice literal with no element, and one of known cells -/
theorem OwnR.empty (w : World) (B : Nat) (t : TypeId) (sz : Nat) (hB : B ≤ w.heap.size) : OwnR (w.alloc (.cells #[] t)) B t sz (.slice (some ⟨w.heap.size, 0, none⟩) 0 0) [] :=
  ⟨by simp, World.ownsRow_lit w #[] 0 hB (Nat.zero_le _) (by simp)⟩
theorem OwnR.lit (w : World) (B : Nat) (t : TypeId) (sz : Nat) (rows : List (List Value)) (hr : ∀ r ∈ rows, r.length = sz) (hB : B ≤ w.heap.size) (hm : rows.length ≤ maxLen) :
    OwnR (w.alloc (.cells rows.flatten.toArray t)) B t sz (.slice (some ⟨w.heap.size, 0, none⟩) rows.length rows.length) rows :=
  ⟨hr, by have := World.ownsRow_lit (e := t) (size := sz) w rows.flatten.toArray rows.length hB hm (by simpa using flat_len hr); simpa using this⟩
end

/-- 's = append(s, x)', the new record in a block of its own just made -/
theorem wpList_pushR {P : Program} {ops : Array Oper} {rest : List Oper} {o : Oper} {a : Act} {Q : Exit → Act → World → Prop} (w : World) (x : List Value) (hx1 : ∀ u ∈ x, u.oneCell' = true) (B : Nat) (rows : List (List Value)) (s y : Operand) (ts t : TypeId) (sz bytes : Nat) (z : Value)
    (hu : P.underlying ts = some (.slice t)) (hinfo : (P.info? t).map (fun i => (i.zero, i.size, i.bytes)) = some (some z, sz, bytes)) (hz : z.cells.size = sz) (h0 : 0 < sz) (hxl : x.length = sz)
    (hgd : o.guard = none) (ho : o.op = .call { callee := .builtin .append, args := #[s, y], argTypes := #[ts, ts] })
    (v : Value) (hs : a.eval s = v) (hx : a.eval y = .slice (some ⟨w.heap.size, 0, none⟩) 1 1) (hown : OwnR w B t sz v rows) (hl : (rows.length + 1) * bytes ≤ 140737488355328) (hm : rows.length + 1 ≤ maxLen) (hB : B ≤ w.heap.size)
    (h : ∀ v' w', OwnR w' B t sz v' (rows ++ [x]) → Below B w w' → w.heap.size ≤ w'.heap.size → w.grownBy w' v.ownBlock → wpList P ops Q rest (a.put o.dst v') w') :
    wpList P ops Q (o :: rest) a (w.alloc (.cells x.toArray t)) := by
  obtain ⟨i0, hi, hz0, hz1, hz2⟩ := info_parts hinfo
  refine wpList_append_own (w.alloc (.cells x.toArray t)) hgd s y ts ho B t i0 z sz bytes hu hi hz0 hz1 hz2 hz h0 v rows.length rows.flatten hs (OwnR.alloc hown _).2
    ⟨w.heap.size, 0, none⟩ 1 1 x hx (by omega) ?_ hx1 hm hl (by simp; omega) ?_
  · intro j u hj
    rw [add_at, Nat.zero_add]
    have hlt : j < x.length := by
      rcases Nat.lt_or_ge j x.length with g | g
      · exact g
      · rw [List.getElem?_eq_none g] at hj; cases hj
    have e : x.toArray[j]? = some u := by simpa using hj
    simp [e]
  · intro v' w' h1 h2 _
    have hg : w.grownBy w' v.ownBlock := (World.grownBy_alloc w _ v.ownBlock).trans h2
    refine h v' w' ⟨?_, by simpa using h1⟩ ?_ hg.size hg
    · intro r hr
      rcases List.mem_append.1 hr with hr | hr
      · exact hown.1 r hr
      · rw [List.mem_singleton.1 hr]; exact hxl
    · exact (Below.refl B w).grown hg hB (OwnR.block hown)

/-- a record as a law's argument -/
theorem open_rec {H : Type} {enc : TypeId × Value → H} {P : Program} {w : World} {base : Nat} {spare : Nat → Bool} {held : Bool} {t : TypeId} {n : Nat} {fs : Array Field} {ls : List Leaf} {v : Value} {d : DataW H} {p : List MemPlace} {b0 : Nat} {r : Reach}
    (ht : P.underlying t = some (.struct fs)) (hls : leafs P n t = some ls) (hsz : P.cellsOf t = ls.length)
    (hval : Value.okWide P w r b0 t v) (h : DataW.Trod enc P w base spare held t v d p) : ∃ cs : List Value, v = .agg cs.toArray ∧ okAll ls cs := by
  obtain ⟨cs, rfl, hs, _⟩ : ∃ cs, v = .agg cs ∧ cs.size = P.cellsOf t ∧ Row.okWide P w r b0 t cs := by
    simpa [Value.okWide, ht] using hval
  obtain ⟨fuel, hf⟩ := h
  refine ⟨cs.toList, by simp, ?_⟩
  exact leafs_ok n t ls hls fuel cs.toList _ (by simp; omega) hf
end Go.Recs

/- Slices of records by a type of one's own, over any program. -/
namespace Go.Recs
open Go.RowKit Go.Deep
set_option linter.unusedVariables false
/-- the slice at A holds the records l, each laid out by f in sz cells, each with the property Q -/
def TR {α : Type} (f : α → List Value) (Q : α → Prop) (sz : Nat) (w : World) (A : Option Addr) (l : List α) : Prop := Recs w A sz (l.map f) ∧ ∀ a ∈ l, Q a
section
variable {α : Type} {f : α → List Value} {Q : α → Prop} {sz : Nat} {w w' : World} {A : Option Addr} {l : List α}
theorem TR.len (h : TR f Q sz w A l) : l.length ≤ 9223372036854775807 := by have := h.1.len; rw [List.length_map] at this; exact this
theorem TR.below (h : TR f Q sz w A l) (hb : Below w.heap.size w w') : TR f Q sz w' A l := ⟨h.1.below hb, h.2⟩
theorem TR.drewN (h : TR f Q sz w A l) (n : Nat) : TR f Q sz (w.drewN n) A l := h
theorem TR.drew (h : TR f Q sz w A l) : TR f Q sz w.drew A l := h
theorem TR.nil (w : World) (A : Option Addr) : TR f Q sz w A [] := ⟨Recs.nil _ _ _, by simp⟩
theorem TR.keep (h : TR f Q sz w A l) (hz : w.heap.size ≤ w'.heap.size) (hk : ∀ b o, b < w.heap.size → w'.cell? ⟨b, o, none⟩ = w.cell? ⟨b, o, none⟩) : TR f Q sz w' A l := ⟨h.1.keep hz hk, h.2⟩
/-- record k: where it lies, and its cells -/
theorem TR.at_ (h : TR f Q sz w A l) {k : Nat} (hk : k < l.length) :
    ∃ b off, A = some ⟨b, off, none⟩ ∧ b < w.heap.size ∧ Q l[k] ∧ ∀ j, j < sz → w.cell? ⟨b, off + k * sz + j, none⟩ = (f l[k])[j]? := by
  obtain ⟨b, off, rfl, hb, hc⟩ := h.1.get (k := k) (by simpa using hk)
  refine ⟨b, off, rfl, hb, h.2 _ (List.getElem_mem hk), fun j hj => ?_⟩
  have e : (l.map f).getD k [] = f l[k] := by simp [List.getD, hk]
  have := hc j hj
  rw [e, ← Nat.add_assoc] at this
  exact this
theorem TR.take_ (h : TR f Q sz w A l) (n : Nat) : TR f Q sz w A (l.take n) := by
  obtain ⟨⟨h1, h2, h3⟩, h4⟩ := h
  refine ⟨⟨?_, ?_, ?_⟩, fun r hr => h4 r (List.mem_of_mem_take hr)⟩
  · rw [List.length_map] at h1 ⊢; rw [List.length_take]; omega
  · intro r hr
    obtain ⟨a, ha, rfl⟩ := List.mem_map.1 hr
    exact h2 _ (List.mem_map.2 ⟨a, List.mem_of_mem_take ha, rfl⟩)
  · rcases h3 with h3 | ⟨b, off, rfl, hb, hc⟩
    · left; have : l = [] := by simpa using h3
      rw [this]; simp
    · refine .inr ⟨b, off, rfl, hb, fun i j hi hj => ?_⟩
      rw [List.length_map, List.length_take] at hi
      rw [hc i j (by rw [List.length_map]; omega) hj]
      have h1 : i < l.length := by omega
      have h2 : i < n := by omega
      simp [List.getD, h1, h2]
theorem TR.drop_ {b off : Nat} (h : TR f Q sz w (some ⟨b, off, none⟩) l) (n : Nat) : TR f Q sz w (some ⟨b, off + n * sz, none⟩) (l.drop n) := by
  obtain ⟨⟨h1, h2, h3⟩, h4⟩ := h
  refine ⟨⟨?_, ?_, ?_⟩, fun r hr => h4 r (List.mem_of_mem_drop hr)⟩
  · rw [List.length_map] at h1 ⊢; rw [List.length_drop]; omega
  · intro r hr
    obtain ⟨a, ha, rfl⟩ := List.mem_map.1 hr
    exact h2 _ (List.mem_map.2 ⟨a, List.mem_of_mem_drop ha, rfl⟩)
  · rcases h3 with h3 | ⟨b', off', e, hb, hc⟩
    · left; have : l = [] := by simpa using h3
      rw [this]; simp
    · injection e with e
      injection e with e1 e2
      subst e1 e2
      refine .inr ⟨_, _, rfl, hb, fun i j hi hj => ?_⟩
      rw [List.length_map, List.length_drop] at hi
      have := hc (n + i) j (by rw [List.length_map]; omega) hj
      rw [Nat.add_mul] at this
      rw [show off + n * sz + (i * sz + j) = off + (n * sz + i * sz + j) by omega, this]
      have h1 : n + i < l.length := by omega
      simp [List.getD, h1]
end
/-- a slice of records that the call itself made -/
def OwnT {α : Type} (f : α → List Value) (w : World) (B : Nat) (t : TypeId) (sz : Nat) (v : Value) (l : List α) : Prop := OwnR w B t sz v (l.map f)
theorem OwnT.nil {α : Type} (f : α → List Value) (w : World) (B : Nat) (t : TypeId) (sz : Nat) : OwnT f w B t sz (.slice none 0 0) [] := OwnR.nil _ _ _ _
theorem OwnT.tr {α : Type} {f : α → List Value} {Q : α → Prop} {w : World} {B : Nat} {t : TypeId} {sz : Nat} {v : Value} {l : List α} (h : OwnT f w B t sz v l) (hq : ∀ a ∈ l, Q a) :
    ∃ A cap, v = .slice A l.length cap ∧ TR f Q sz w A l ∧ l.length ≤ cap := by
  obtain ⟨A, cap, rfl, hr, hc⟩ := OwnR.recs h
  rw [List.length_map] at hc ⊢
  exact ⟨A, cap, rfl, ⟨hr, hq⟩, hc⟩
theorem OwnT.below {α : Type} {f : α → List Value} {w w' : World} {B : Nat} {t : TypeId} {sz : Nat} {v : Value} {l : List α} (h : OwnT f w B t sz v l) (hb : Below w.heap.size w w') : OwnT f w' B t sz v l := OwnR.below h hb
theorem OwnT.drewN {α : Type} {f : α → List Value} {w : World} {B : Nat} {t : TypeId} {sz : Nat} {v : Value} {l : List α} (h : OwnT f w B t sz v l) (n : Nat) : OwnT f (w.drewN n) B t sz v l := h
theorem OwnT.lower {α : Type} {f : α → List Value} {w : World} {B B' : Nat} {t : TypeId} {sz : Nat} {v : Value} {l : List α} (h : OwnT f w B t sz v l) (hB : B' ≤ B) : OwnT f w B' t sz v l := OwnR.lower h hB
theorem OwnT.empty {α : Type} (f : α → List Value) (w : World) (B : Nat) (t : TypeId) (sz : Nat) (hB : B ≤ w.heap.size) : OwnT f (w.alloc (.cells #[] t)) B t sz (.slice (some ⟨w.heap.size, 0, none⟩) 0 0) [] := OwnR.empty w B t sz hB
end Go.Recs

/- Products and series in memory, over any program. -/
namespace Go.Recs
open Go.RowKit
set_option linter.unusedVariables false
def i64 (n : Int) : Prop := -9223372036854775808 ≤ n ∧ n ≤ 9223372036854775807
def prodV (p : QM.Prod) : List Value := [.string p.name, .int .i64 p.cur, .int .i64 p.mult, .int .i64 p.tick, .int .i64 p.low, .int .i64 p.high, .bool p.phys]
def prodQ (p : QM.Prod) : Prop := p.name.size ≤ maxLen ∧ i64 p.cur ∧ i64 p.mult ∧ i64 p.tick ∧ i64 p.low ∧ i64 p.high
def prodL : List Leaf := [.str, .int .i64, .int .i64, .int .i64, .int .i64, .int .i64, .bool]
def serV (s : EM.Ser) : List Value := [.string s.prod, .int .i64 s.kind, .int .i64 s.expiry, .int .i64 s.strike]
def serQ (s : EM.Ser) : Prop := s.prod.size ≤ maxLen ∧ i64 s.kind ∧ i64 s.expiry ∧ i64 s.strike
def serL : List Leaf := [.str, .int .i64, .int .i64, .int .i64]
theorem okAll_cons {l : Leaf} {ls : List Leaf} {r : List Value} (h : okAll (l :: ls) r) : ∃ c r', r = c :: r' ∧ l.ok c ∧ okAll ls r' := by
  cases r with
  | nil => exact h.elim
  | cons c r => exact ⟨c, r, rfl, h.1, h.2⟩
theorem okAll_nil {r : List Value} (h : okAll [] r) : r = [] := by
  cases r with
  | nil => rfl
  | cons c r => exact h.elim
theorem prod_row (r : List Value) (h : okAll prodL r) : ∃ p : QM.Prod, r = prodV p ∧ prodQ p := by
  obtain ⟨c0, r0, rfl, ⟨s, rfl, hs⟩, g0⟩ := okAll_cons h
  obtain ⟨c1, r1, rfl, ⟨n1, rfl, h1⟩, g1⟩ := okAll_cons g0
  obtain ⟨c2, r2, rfl, ⟨n2, rfl, h2⟩, g2⟩ := okAll_cons g1
  obtain ⟨c3, r3, rfl, ⟨n3, rfl, h3⟩, g3⟩ := okAll_cons g2
  obtain ⟨c4, r4, rfl, ⟨n4, rfl, h4⟩, g4⟩ := okAll_cons g3
  obtain ⟨c5, r5, rfl, ⟨n5, rfl, h5⟩, g5⟩ := okAll_cons g4
  obtain ⟨c6, r6, rfl, ⟨b, rfl⟩, g6⟩ := okAll_cons g5
  rw [okAll_nil g6]
  exact ⟨⟨s, n1, n2, n3, n4, n5, b⟩, rfl, hs, bounds_i64 h1, bounds_i64 h2, bounds_i64 h3, bounds_i64 h4, bounds_i64 h5⟩
theorem ser_row (r : List Value) (h : okAll serL r) : ∃ s : EM.Ser, r = serV s ∧ serQ s := by
  obtain ⟨c0, r0, rfl, ⟨s, rfl, hs⟩, g0⟩ := okAll_cons h
  obtain ⟨c1, r1, rfl, ⟨n1, rfl, h1⟩, g1⟩ := okAll_cons g0
  obtain ⟨c2, r2, rfl, ⟨n2, rfl, h2⟩, g2⟩ := okAll_cons g1
  obtain ⟨c3, r3, rfl, ⟨n3, rfl, h3⟩, g3⟩ := okAll_cons g2
  rw [okAll_nil g3]
  exact ⟨⟨s, n1, n2, n3⟩, rfl, hs, bounds_i64 h1, bounds_i64 h2, bounds_i64 h3⟩
abbrev Prods := TR prodV prodQ 7
abbrev Sers := TR serV serQ 4
theorem prods_get {w : World} {A : Option Addr} {l : List QM.Prod} (h : Prods w A l) {k : Nat} (hk : k < l.length) :
    ∃ b off, ∃ p : QM.Prod, A = some ⟨b, off, none⟩ ∧ b < w.heap.size ∧ Hid (QM.pAt l k = p) ∧ prodQ p ∧ w.cell? ⟨b, off + k * 7, none⟩ = some (.string p.name) ∧ w.cell? ⟨b, off + k * 7 + 1, none⟩ = some (.int .i64 p.cur) ∧
      w.cell? ⟨b, off + k * 7 + 2, none⟩ = some (.int .i64 p.mult) ∧ w.cell? ⟨b, off + k * 7 + 3, none⟩ = some (.int .i64 p.tick) ∧ w.cell? ⟨b, off + k * 7 + 4, none⟩ = some (.int .i64 p.low) ∧
      w.cell? ⟨b, off + k * 7 + 5, none⟩ = some (.int .i64 p.high) ∧ w.cell? ⟨b, off + k * 7 + 6, none⟩ = some (.bool p.phys) := by
  obtain ⟨b, off, rfl, hb, hq, hc⟩ := h.at_ hk
  refine ⟨b, off, l[k], rfl, hb, Lib.hid (by simp [QM.pAt, List.getD, hk]), hq, hc 0 (by omega), hc 1 (by omega), hc 2 (by omega), hc 3 (by omega), hc 4 (by omega), hc 5 (by omega), hc 6 (by omega)⟩
def sAt (l : List EM.Ser) (k : Nat) : EM.Ser := l.getD k EM.zero
theorem sers_get {w : World} {A : Option Addr} {l : List EM.Ser} (h : Sers w A l) {k : Nat} (hk : k < l.length) :
    ∃ b off, ∃ s : EM.Ser, A = some ⟨b, off, none⟩ ∧ b < w.heap.size ∧ Hid (sAt l k = s) ∧ serQ s ∧ w.cell? ⟨b, off + k * 4, none⟩ = some (.string s.prod) ∧ w.cell? ⟨b, off + k * 4 + 1, none⟩ = some (.int .i64 s.kind) ∧
      w.cell? ⟨b, off + k * 4 + 2, none⟩ = some (.int .i64 s.expiry) ∧ w.cell? ⟨b, off + k * 4 + 3, none⟩ = some (.int .i64 s.strike) := by
  obtain ⟨b, off, rfl, hb, hq, hc⟩ := h.at_ hk
  refine ⟨b, off, l[k], rfl, hb, Lib.hid (by simp [sAt, List.getD, hk]), hq, hc 0 (by omega), hc 1 (by omega), hc 2 (by omega), hc 3 (by omega)⟩
end Go.Recs
