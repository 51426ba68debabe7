/- Put together: FieldMath, WordsK, ProdF, ProdH0, ProdH, WordsL, WordsM, WordMath5. -/
import Derived.Test.YtiohainnpjikpaaBun6
import Derived.Test.YtiohainnpjikpaaBun7
import Derived.Deep.RegionHeld3
import Derived.StillTailTactics
import Derived.Deep.LoopGhost
import Derived.WalkMore
/- What the loops over a line hold: the fields that are complete, and where the next one begins. -/
namespace WM
set_option linter.unusedVariables false

def FI (l : List UInt8) (k f : Nat) (ps : List (List UInt8)) : Prop := k ≤ l.length ∧ f ≤ k ∧ run 32 (l.take k) = (ps, (l.take k).drop f) ∧ full ps = true ∧ (l.take k).all plain = true
def LI (l : List UInt8) (k f : Nat) (ps : List (List UInt8)) : Prop := k ≤ l.length ∧ f ≤ k ∧ run 10 (l.take k) = (ps, (l.take k).drop f)

theorem run_more (b : UInt8) (x y : List UInt8) : ∃ t, (run b (x ++ y)).1 = (run b x).1 ++ t := by
  induction y using snoc_ind with
  | h0 => exact ⟨[], by simp⟩
  | h1 y c ih =>
    obtain ⟨t, ht⟩ := ih
    rw [← List.append_assoc]
    by_cases h : c = b
    · subst h
      rw [run_snoc_at]
      exact ⟨t ++ [(run c (x ++ y)).2], by simp [ht]⟩
    · rw [run_snoc_in h]
      exact ⟨t, ht⟩
theorem run_len (b : UInt8) (l : List UInt8) : (run b l).1.length ≤ l.length := by
  induction l using snoc_ind with
  | h0 => simp [run_nil]
  | h1 l c ih =>
    by_cases h : c = b
    · subst h; rw [run_snoc_at]; simp; omega
    · rw [run_snoc_in h]; simp; omega
theorem full_append (a b : List (List UInt8)) : full (a ++ b) = (full a && full b) := by simp [full]
theorem pieces_not (l : List UInt8) (k : Nat) (h : full (run 32 (l.take k)).1 = false) : full (pieces 32 l) = false := by
  obtain ⟨t, ht⟩ := run_more 32 (l.take k) (l.drop k)
  rw [List.take_append_drop] at ht
  unfold pieces
  rw [ht, full_append, full_append, h]; rfl
theorem fields_five {l : List UInt8} (h1 : l.length ≤ 512) (h2 : l ≠ []) (h : (l.all plain && full (pieces 32 l)) = false) : fieldsE l = 5 ∧ fieldsN l = [] := by
  have e : fieldsE l = 5 := by
    unfold fieldsE
    rw [if_neg (by omega), if_neg h2, h]; rfl
  exact ⟨e, by unfold fieldsN; rw [e]; simp⟩
theorem FI.start (l : List UInt8) : FI l 0 0 [] := ⟨Nat.zero_le _, Nat.le_refl _, rfl, rfl, rfl⟩
theorem drop_snoc {l : List UInt8} {k f : Nat} (hk : k < l.length) (hf : f ≤ k) : (l.take (k + 1)).drop f = (l.take k).drop f ++ [l[k]] := by
  rw [take_snoc l k hk, List.drop_append_of_le_length (by rw [List.length_take]; omega)]
theorem drop_self (l : List UInt8) (k : Nat) : (l.take k).drop k = [] := by
  rw [List.drop_eq_nil_iff, List.length_take]; omega
theorem FI.in_ {l : List UInt8} {k f : Nat} {ps : List (List UInt8)} (h : FI l k f ps) (hk : k < l.length) (hp : plain l[k] = true) (hb : l[k] ≠ 32) : FI l (k + 1) f ps := by
  obtain ⟨_, h2, h3, h4, h5⟩ := h
  refine ⟨by omega, by omega, ?_, h4, ?_⟩
  · rw [drop_snoc hk h2, take_snoc l k hk, run_snoc_in hb, h3]
  · rw [take_snoc l k hk, all_snoc, h5, hp]; rfl
theorem FI.cut {l : List UInt8} {k f : Nat} {ps : List (List UInt8)} (h : FI l k f ps) (hk : k < l.length) (hb : l[k] = 32) (hf : f < k) : FI l (k + 1) (k + 1) (ps ++ [(l.take k).drop f]) := by
  obtain ⟨_, h2, h3, h4, h5⟩ := h
  refine ⟨by omega, by omega, ?_, ?_, ?_⟩
  · rw [drop_self, take_snoc l k hk, hb, run_snoc_at, h3]
  · rw [full_append, h4]
    simp [full]
    omega
  · rw [take_snoc l k hk, all_snoc, h5, hb]; rfl
theorem FI.bad {l : List UInt8} {k f : Nat} {ps : List (List UInt8)} (h : FI l k f ps) (hk : k < l.length) (hp : plain l[k] = false) (h1 : l.length ≤ 512) (h2 : l ≠ []) : fieldsE l = 5 ∧ fieldsN l = [] :=
  fields_five h1 h2 (by rw [not_all k hk hp]; rfl)
theorem FI.empty_in {l : List UInt8} {k : Nat} {ps : List (List UInt8)} (h : FI l k k ps) (hk : k < l.length) (hb : l[k] = 32) (h1 : l.length ≤ 512) (h2 : l ≠ []) : fieldsE l = 5 ∧ fieldsN l = [] := by
  refine fields_five h1 h2 ?_
  have : full (run 32 (l.take (k + 1))).1 = false := by
    rw [take_snoc l k hk, hb, run_snoc_at, h.2.2.1, drop_self, full_append]
    simp [full]
  rw [pieces_not l (k + 1) this]; simp
theorem FI.empty_end {l : List UInt8} {ps : List (List UInt8)} (h : FI l l.length l.length ps) (h1 : l.length ≤ 512) (h2 : l ≠ []) : fieldsE l = 5 ∧ fieldsN l = [] := by
  refine fields_five h1 h2 ?_
  have e := h.2.2.1
  rw [drop_self, List.take_of_length_le (Nat.le_refl _)] at e
  unfold pieces
  rw [e, full_append]
  simp [full]
theorem FI.done {l : List UInt8} {f : Nat} {ps : List (List UInt8)} (h : FI l l.length f ps) (hf : f < l.length) (h1 : l.length ≤ 512) (h2 : l ≠ []) : fieldsE l = 0 ∧ fieldsN l = ps ++ [(l.take l.length).drop f] := by
  obtain ⟨_, _, h3, h4, h5⟩ := h
  rw [List.take_of_length_le (Nat.le_refl _)] at *
  have hp : pieces 32 l = ps ++ [l.drop f] := by unfold pieces; rw [h3]
  have e : fieldsE l = 0 := by
    unfold fieldsE
    have h6 : full [l.drop f] = true := by simp [full]; omega
    rw [if_neg (by omega), if_neg h2, hp, full_append, h4, h5, h6]; rfl
  exact ⟨e, by unfold fieldsN; rw [if_pos ⟨e, h2⟩, hp]⟩
theorem FI.len {l : List UInt8} {k f : Nat} {ps : List (List UInt8)} (h : FI l k f ps) : ps.length ≤ l.length := by
  have := run_len 32 (l.take k)
  rw [h.2.2.1, List.length_take] at this
  simp at this; omega
theorem fields_long {l : List UInt8} (h : 512 < l.length) : fieldsE l = 8 ∧ fieldsN l = [] := by
  have e : fieldsE l = 8 := by unfold fieldsE; rw [if_pos h]
  exact ⟨e, by unfold fieldsN; rw [e]; simp⟩
theorem fields_none : fieldsE [] = 0 ∧ fieldsN [] = [] := ⟨rfl, rfl⟩

theorem LI.start (l : List UInt8) : LI l 0 0 [] := ⟨Nat.zero_le _, Nat.le_refl _, rfl⟩
theorem LI.in_ {l : List UInt8} {k f : Nat} {ps : List (List UInt8)} (h : LI l k f ps) (hk : k < l.length) (hb : l[k] ≠ 10) : LI l (k + 1) f ps := by
  obtain ⟨_, h2, h3⟩ := h
  refine ⟨by omega, by omega, ?_⟩
  rw [drop_snoc hk h2, take_snoc l k hk, run_snoc_in hb, h3]
theorem LI.cut {l : List UInt8} {k f : Nat} {ps : List (List UInt8)} (h : LI l k f ps) (hk : k < l.length) (hb : l[k] = 10) : LI l (k + 1) (k + 1) (ps ++ [(l.take k).drop f]) := by
  obtain ⟨_, h2, h3⟩ := h
  refine ⟨by omega, by omega, ?_⟩
  rw [drop_self, take_snoc l k hk, hb, run_snoc_at, h3]
theorem LI.len {l : List UInt8} {k f : Nat} {ps : List (List UInt8)} (h : LI l k f ps) : ps.length ≤ l.length := by
  have := run_len 10 (l.take k)
  rw [h.2.2, List.length_take] at this
  simp at this; omega
theorem LI.done {l : List UInt8} {f : Nat} {ps : List (List UInt8)} (h : LI l l.length f ps) (h1 : l.length ≤ 65536) :
    (f < l.length → linesN l = ps ++ [(l.take l.length).drop f]) ∧ (¬ f < l.length → linesN l = ps) := by
  obtain ⟨_, _, h3⟩ := h
  rw [List.take_of_length_le (Nat.le_refl _)] at *
  unfold linesN pieces
  rw [if_neg (by omega), h3]
  constructor
  · intro hf
    rw [if_neg]
    intro e
    have := congrArg List.length e
    simp at this; omega
  · intro hf
    rw [if_pos]
    simp; omega
theorem lines_long {l : List UInt8} (h : 65536 < l.length) : linesE l = 8 ∧ linesN l = [] := ⟨by unfold linesE; rw [if_pos h], by unfold linesN; rw [if_pos h]⟩
theorem lines_ok {l : List UInt8} (h : ¬ 65536 < l.length) : linesE l = 0 := by unfold linesE; rw [if_neg h]
end WM

/- Contracts: lines, joins; are two lists alike. -/
namespace Go.Proofs.Ytiohainnpjikpaa
open Go.RowKit
set_option linter.unusedVariables false

def strs (ps : List (List UInt8)) : List ByteArray := ps.map S
theorem texts_strs (ps : List (List UInt8)) : texts (strs ps) = ps := by
  unfold texts strs
  rw [List.map_map]
  conv => rhs; rw [← List.map_id ps]
  apply List.map_congr_left
  intro p _
  exact L_S p
theorem strs_texts (ls : List ByteArray) : strs (texts ls) = ls := by
  unfold texts strs
  rw [List.map_map]
  conv => rhs; rw [← List.map_id ls]
  apply List.map_congr_left
  intro p _
  exact S_L p
theorem strs_snoc (ps : List (List UInt8)) (s : ByteArray) (a b : Nat) : strs (ps ++ [((L s).take b).drop a]) = strs ps ++ [s.extract a b] := by
  unfold strs
  rw [List.map_append]
  have : S (((L s).take b).drop a) = s.extract a b := L_inj (by rw [L_S, L_extract])
  simp [this]
theorem strs_len (ps : List (List UInt8)) : (strs ps).length = ps.length := List.length_map _

theorem nl_eq (c : UInt8) : ((c.toNat : Int) == 10) = (c == 10) := by
  rw [Bool.eq_iff_iff]
  simp only [beq_iff_eq]
  constructor
  · intro h; exact UInt8.toNat_inj.1 (by have : (10 : UInt8).toNat = 10 := rfl; omega)
  · intro h; rw [h]; rfl

theorem join_any (A : Option Addr) (ls : List ByteArray) (cap : Nat) (w : World) (hI : Strs w A ls) (hl : WM.tl 1 (sizes ls) ≤ 140737488355328) :
    Calls Try.prog 41 #[.slice A ls.length cap] w fun e w' => e = .returned (.string (S (WM.joinL (texts ls)))) ∧ Below w.heap.size w w' := by
  have C := concat_any ⟨#[32]⟩ A ls cap w (by show 1 ≤ _; omega) hI hl
  rw [show L ⟨#[32]⟩ = [32] from rfl, WM.catL_join] at C
  have HC := Lib.hid C
  clear C
  go_enter Try.func41, Try.ntmps41
  go_wp2_with fail
  refine HC.out.mono ?_
  rintro e w1 ⟨rfl, b1⟩
  have HB := Lib.hid b1
  clear b1
  go_wp2
  go_ret
  exact ⟨rfl, HB.out⟩

theorem join_step (ls : List ByteArray) (k : Nat) (hk : k < ls.length) (h0 : 0 < k) : (S (WM.joinL (texts (ls.take k))) ++ ByteArray.mk #[32]) ++ ls[k] = S (WM.joinL (texts (ls.take (k + 1)))) := by
  have := texts_step [32] ls k hk
  rw [WM.catL_join, WM.catL_join, if_neg (by omega)] at this
  apply L_inj
  rw [L_append, L_append, L_S, L_S, this]
  rfl
theorem join_step0 (ls : List ByteArray) (hk : 0 < ls.length) : S (WM.joinL (texts (ls.take 0))) ++ ls[0] = S (WM.joinL (texts (ls.take (0 + 1)))) := by
  have := texts_step [32] ls 0 hk
  rw [WM.catL_join, if_pos rfl] at this
  apply L_inj
  rw [L_append, L_S, L_S, this]
  rfl
theorem join_le (ls : List ByteArray) (k : Nat) : (S (WM.joinL (texts (ls.take k)))).size ≤ WM.tl 1 (sizes (ls.take k)) := by
  rw [S_size, ← WM.catL_join]; exact cat_le [32] ls k

set_option maxHeartbeats 1000000 in
theorem rjoin_any (A : Option Addr) (ls : List ByteArray) (cap : Nat) (w : World) (hI : Strs w A ls) (hl : WM.tl 1 (sizes ls) ≤ 140737488355328) :
    Calls Try.prog 44 #[.slice A ls.length cap] w fun e w' => e = .returned (.string (S (WM.joinL (texts ls)))) ∧ w = w' := by
  have hlen := hI.len
  generalize hr : S (WM.joinL (texts ls)) = res
  have HR := Lib.hid hr
  clear hr
  go_enter Try.func44, Try.ntmps44
  go_wp2
  go_loop [3, 4] (fun t i => ∃ (k : Nat) (u : ByteArray), k ≤ ls.length ∧ i = .int .i64 k ∧ t = .string u ∧ Hid (S (WM.joinL (texts (ls.take k))) = u)) (fun _ i => ls.length - (intOf i).toNat)
  case atStart => exact ⟨0, _, by omega, rfl, rfl, Lib.hid rfl⟩
  case round =>
    obtain ⟨k, u, hk, rfl, rfl, HU⟩ := hrel
    by_cases hlt : k < ls.length
    · obtain ⟨g, off, s, rfl, hg, hcell, HS, hs⟩ := hI.get hlt
      have HI := Lib.hid hI
      clear hI
      have hst := sizes_step 1 ls k hlt
      have hle := join_le ls k
      rw [HS.out] at hst
      rw [HU.out] at hle
      have bnd : u.size + (s.size + 1) ≤ 140737488355328 := by omega
      clear hst hle
      by_cases hk0 : 0 < k
      · have hj := join_step ls k hlt hk0
        rw [HS.out, HU.out] at hj
        have HJ := Lib.hid hj
        clear hj
        have hadd := run_string_add_sum (P := Try.prog) w u ⟨#[32]⟩ (by rw [show (ByteArray.mk #[32]).size = 1 from rfl]; omega)
        have z1 : (u ++ ByteArray.mk #[32]).size = u.size + 1 := by rw [ByteArray.size_append]; rfl
        have hadd2 := run_string_add_sum (P := Try.prog) w (u ++ ByteArray.mk #[32]) s (by rw [z1]; omega)
        generalize u ++ ByteArray.mk #[32] = u1 at *
        rw [HJ.out] at hadd2
        clear z1
        go_wp2
        go_round
        case rel => exact ⟨k + 1, _, by omega, by go_num, rfl, Lib.hid rfl⟩
        case measure => simp [intOf]; omega
      · have hk1 : k = 0 := by omega
        have hj : u ++ s = S (WM.joinL (texts (ls.take (k + 1)))) := by
          rw [← HU.out, ← HS.out]
          subst hk1
          exact join_step0 ls hlt
        have HJ := Lib.hid hj
        clear hj hk1
        have hadd := run_string_add_sum (P := Try.prog) w u s (by omega)
        rw [HJ.out] at hadd
        have d0 : decide (0 < k) = false := decide_eq_false hk0
        go_wp2
        go_round
        case rel => exact ⟨k + 1, _, by omega, by go_num, rfl, Lib.hid rfl⟩
        case measure => simp [intOf]; omega
    · obtain rfl : k = ls.length := by omega
      have hu := HU.out
      rw [List.take_of_length_le (Nat.le_refl _), HR.out] at hu
      have HU2 := Lib.hid hu
      clear hu
      go_wp2
      go_ret
      exact ⟨by rw [HU2.out]; rfl, rfl⟩

end Go.Proofs.Ytiohainnpjikpaa

/- Contracts of layer 9: Print. -/
namespace Go.Proofs.Ytiohainnpjikpaa
open Go.RowKit Go.Recs
set_option linter.unusedVariables false

theorem dec_len64 (m : Nat) (h : m < 18446744073709551616) : (WM.dec m).length ≤ 20 := by
  have key : ∀ k m : Nat, m < 10 ^ (k + 1) → (WM.dec m).length ≤ k + 1 := by
    intro k
    induction k with
    | zero => intro m hm; rw [WM.dec_small (by simpa using hm)]; simp
    | succ k ih =>
      intro m hm
      by_cases h10 : m < 10
      · rw [WM.dec_small h10]; simp
      · rw [WM.dec_big h10, List.length_append]
        have := ih (m / 10) (by rw [Nat.div_lt_iff_lt_mul (by omega)]; rw [Nat.pow_succ] at hm; omega)
        simp; omega
  exact key 19 m (by omega)
theorem text_len64 {n : Int} (h : i64 n) : (WM.textL n).length ≤ 21 := by
  unfold i64 at h
  have := dec_len64 n.natAbs (by omega)
  unfold WM.textL
  split
  · rw [List.length_cons]; omega
  · omega
def wordB (b : Bool) : ByteArray := if b then ⟨#[112, 104, 121, 115, 105, 99, 97, 108]⟩ else ⟨#[99, 97, 115, 104]⟩
def pieceB (p : QM.Prod) : List ByteArray := [p.name, S (WM.textL p.cur), S (WM.textL p.mult), S (WM.textL p.tick), S (WM.textL p.low), S (WM.textL p.high), wordB p.phys]
theorem piece_texts (p : QM.Prod) : texts (pieceB p) = QM.fieldsOf p := by
  unfold texts pieceB QM.fieldsOf
  simp only [List.map_cons, List.map_nil, L_S]
  cases p.phys <;> rfl
theorem piece_size (p : QM.Prod) (hq : prodQ p) (hn : p.name.size ≤ 140737488351232) : WM.tl 1 (sizes (pieceB p)) ≤ 140737488355328 := by
  obtain ⟨_, h1, h2, h3, h4, h5⟩ := hq
  have l1 := text_len64 h1; have l2 := text_len64 h2; have l3 := text_len64 h3; have l4 := text_len64 h4; have l5 := text_len64 h5
  have l6 : (wordB p.phys).size ≤ 8 := by cases p.phys <;> decide
  simp only [WM.tl, sizes, pieceB, List.map_cons, List.map_nil, List.sum_cons, List.sum_nil, S_size]
  omega
theorem piece_max (p : QM.Prod) (hq : prodQ p) : ∀ s ∈ pieceB p, s.size ≤ maxLen := by
  obtain ⟨h0, h1, h2, h3, h4, h5⟩ := hq
  have l1 := text_len64 h1; have l2 := text_len64 h2; have l3 := text_len64 h3; have l4 := text_len64 h4; have l5 := text_len64 h5
  have l6 : (wordB p.phys).size ≤ 8 := by cases p.phys <;> decide
  intro s hs
  simp only [pieceB, List.mem_cons, List.not_mem_nil, or_false] at hs
  have hm : (21 : Nat) ≤ maxLen := by decide
  rcases hs with rfl | rfl | rfl | rfl | rfl | rfl | rfl
  · exact h0
  all_goals first | (rw [S_size]; omega) | omega
theorem lit_strs (w : World) (ls : List ByteArray) (hl : ls.length ≤ maxLen) (hs : ∀ s ∈ ls, s.size ≤ maxLen) : Strs (w.alloc (.cells (ls.map Value.string).toArray 9)) (some ⟨w.heap.size, 0, none⟩) ls := by
  refine ⟨⟨by rw [List.length_map]; exact hl, .inr ⟨w.heap.size, 0, rfl, by simp, fun i hi => ?_⟩⟩, hs⟩
  rw [World.cell?_alloc_at _ _ _ _ rfl]
  simp
theorem qjoin_any (p : QM.Prod) (hq : prodQ p) (hn : p.name.size ≤ 140737488351232) (b : Bool) (hb : p.phys = b) (ww : World) :
    Calls Try.prog 41 #[.slice (some ⟨ww.heap.size, 0, none⟩) 7 7] (ww.alloc (.cells #[.string p.name, .string (S (WM.textL p.cur)), .string (S (WM.textL p.mult)), .string (S (WM.textL p.tick)), .string (S (WM.textL p.low)), .string (S (WM.textL p.high)), .string (wordB b)] 9))
      fun e w' => e = .returned (.string (S (QM.printL p))) ∧ Below ww.heap.size ww w' := by
  have hI := lit_strs ww (pieceB p) (by show 7 ≤ _; decide) (piece_max p hq)
  have hc := join_any _ (pieceB p) 7 _ hI (piece_size p hq hn)
  rw [piece_texts] at hc
  subst hb
  refine hc.mono fun e w' ⟨he, h⟩ => ⟨he, ?_⟩
  exact ((Below.refl ww.heap.size ww).alloc (Nat.le_refl _) _).trans (h.mono (Nat.le_of_lt (new_lt ww _)))

set_option maxHeartbeats 8000000 in
theorem qprint_any (p : QM.Prod) (hq : prodQ p) (hn : p.name.size ≤ 140737488351232) (w : World) :
    Calls Try.prog 23 #[prodA p] w fun e w' => e = .returned (.string (S (QM.printL p))) ∧ Below w.heap.size w w' := by
  have TX : Hid (∀ n ww, i64 n → Calls Try.prog 42 #[.int .i64 n] ww fun e w' => e = .returned (.string (S (WM.textL n))) ∧ Below ww.heap.size ww w') := Lib.hid (fun n ww h => text_any n ww h.1 h.2)
  have JN := Lib.hid (fun ww => qjoin_any p hq hn p.phys rfl ww)
  have HB := Lib.hid ((Below.refl w.heap.size w).alloc (Nat.le_refl _) (.cells #[.string p.name, .int .i64 p.cur, .int .i64 p.mult, .int .i64 p.tick, .int .i64 p.low, .int .i64 p.high, .bool p.phys] 24))
  have HP := Lib.hid (PBox.new w p)
  obtain ⟨_, h1, h2, h3, h4, h5⟩ := hq
  have H1 := Lib.hid h1; have H2 := Lib.hid h2; have H3 := Lib.hid h3; have H4 := Lib.hid h4; have H5 := Lib.hid h5
  generalize QM.printL p = res at *
  clear hn h1 h2 h3 h4 h5
  cases hph : p.phys
  all_goals (
    rw [hph] at JN HB
    have HPh := Lib.hid hph
    go_enter Try.func23, Try.ntmps23
    go_wp2_with fail
    rw [hph] at HP
    generalize w.alloc (.cells #[.string p.name, .int .i64 p.cur, .int .i64 p.mult, .int .i64 p.tick, .int .i64 p.low, .int .i64 p.high, .bool _] 24) = w1 at *
    clear hph
    have HS : Hid (∀ ww, Below w1.heap.size w1 ww → (ww.cell? ⟨w.heap.size, 0, none⟩ = some (.string p.name) ∧ ww.cell? ⟨w.heap.size, 1, none⟩ = some (.int .i64 p.cur) ∧ ww.cell? ⟨w.heap.size, 2, none⟩ = some (.int .i64 p.mult) ∧ ww.cell? ⟨w.heap.size, 3, none⟩ = some (.int .i64 p.tick) ∧
      ww.cell? ⟨w.heap.size, 4, none⟩ = some (.int .i64 p.low) ∧ ww.cell? ⟨w.heap.size, 5, none⟩ = some (.int .i64 p.high))) := Lib.hid (fun ww h => by
        obtain ⟨c0, c1, c2, c3, c4, c5, _⟩ := (HP.out.below h HP.out.lt).cells
        exact ⟨c0, c1, c2, c3, c4, c5⟩)
    have HBw : Hid (Below w1.heap.size w1 w1.drew) := Lib.hid (Below.refl _ _).drew
    clear HP HPh
    go_region_held3 (fun ww => ww.cell? ⟨w.heap.size, 0, none⟩ = some (.string p.name) ∧ ww.cell? ⟨w.heap.size, 1, none⟩ = some (.int .i64 p.cur) ∧ ww.cell? ⟨w.heap.size, 2, none⟩ = some (.int .i64 p.mult) ∧ ww.cell? ⟨w.heap.size, 3, none⟩ = some (.int .i64 p.tick) ∧
      ww.cell? ⟨w.heap.size, 4, none⟩ = some (.int .i64 p.low) ∧ ww.cell? ⟨w.heap.size, 5, none⟩ = some (.int .i64 p.high))
      (first | exact HS.out _ HBw.out | exact HS.out _ (HBw.out.alloc HBw.out.size _) | assumption)
      (first
        | (go_at_call 42; refine (TX.out _ _ (by first | exact H1.out | exact H2.out | exact H3.out | exact H4.out | exact H5.out)).mono ?_; rintro e w2 ⟨rfl, b2⟩; replace HBw := Lib.hid (HBw.out.trans (b2.mono HBw.out.size)); clear b2)
        | (go_at_call 41; refine (JN.out _).mono ?_; rintro e w2 ⟨rfl, b2⟩; replace HBw := Lib.hid (HBw.out.trans (b2.mono HBw.out.size)); clear b2))
    all_goals (
      clear HS TX JN
      have HBF := Lib.hid (HB.out.trans (HBw.out.mono HB.out.size))
      go_wp2_with fail
      go_ret
      exact ⟨rfl, HBF.out⟩))
end Go.Proofs.Ytiohainnpjikpaa

/- Contracts of layer 9: a line's fields read as a product. -/
namespace Go.Proofs.Ytiohainnpjikpaa
open Go.RowKit Go.Recs
set_option linter.unusedVariables false

/-- block g is an array of five numbers -/
def ARow (w : World) (g : Nat) (zs : List Int) : Prop := w.heap[g]? = some (.cells (zs.map (Value.int .i64)).toArray 64 (0, 0))
section
variable {w w' : World} {g : Nat} {zs : List Int}
theorem ARow.lt (h : ARow w g zs) : g < w.heap.size := lt_of_block h
theorem ARow.cell (h : ARow w g zs) (i : Nat) (hi : i < zs.length) : w.cell? ⟨g, i, none⟩ = some (.int .i64 (zs.getD i 0)) := by
  unfold ARow at h
  simp [World.cell?, h, List.getD, hi]
theorem ARow.frozen (h : ARow w g zs) (i : Nat) : w.frozen? ⟨g, i, none⟩ = false := by unfold ARow at h; simp [World.frozen?, h]
theorem ARow.set_ (h : ARow w g zs) (i : Nat) (x : Int) : ARow (w.setCell ⟨g, i, none⟩ (.int .i64 x)) g (zs.set i x) := by
  unfold ARow at h ⊢
  simp [World.setCell, Array.getElem?_modify, h]
theorem ARow.drewN (h : ARow w g zs) (n : Nat) : ARow (w.drewN n) g zs := h
theorem ARow.below {B : Nat} (h : ARow w g zs) (hb : Below B w w') (hg : g < B) : ARow w' g zs := (hb.block g hg).trans h
theorem ARow.new (w : World) : ARow (w.alloc (.cells #[.int .i64 0, .int .i64 0, .int .i64 0, .int .i64 0, .int .i64 0] 64)) w.heap.size [0, 0, 0, 0, 0] := heap_alloc_new w _
theorem PBox.far {p : QM.Prod} (h : PBox w g p) {q : Addr} (hp : g ≠ q.block) (u : Value) : PBox (w.setCell q u) g p := (Below.heap_setCell w q u g hp).trans h
end
def fil (F : List (List UInt8)) (k j : Nat) : Int := if j < k then WM.intN (QM.fAt F (j + 1)) else 0
def filled (F : List (List UInt8)) (k : Nat) : List Int := [fil F k 0, fil F k 1, fil F k 2, fil F k 3, fil F k 4]
theorem filled_zero (F : List (List UInt8)) : filled F 0 = [0, 0, 0, 0, 0] := rfl
theorem filled_set (F : List (List UInt8)) {k : Nat} (hk : k < 5) : (filled F k).set k (WM.intN (QM.fAt F (k + 1))) = filled F (k + 1) := by
  match k, hk with
  | 0, _ => simp [filled, fil]
  | 1, _ => simp [filled, fil]
  | 2, _ => simp [filled, fil]
  | 3, _ => simp [filled, fil]
  | 4, _ => simp [filled, fil]
theorem filled_all (F : List (List UInt8)) : filled F 5 = [WM.intN (QM.fAt F 1), WM.intN (QM.fAt F 2), WM.intN (QM.fAt F 3), WM.intN (QM.fAt F 4), WM.intN (QM.fAt F 5)] := by simp [filled, fil]
open Classical in
noncomputable def readN (F : List (List UInt8)) : QM.Prod × Bool := if QM.form F then (QM.prodOf F, true) else (QM.zero, false)
theorem read_len {F : List (List UInt8)} (h : F.length ≠ 7) : readN F = (QM.zero, false) := by unfold readN; rw [if_neg (fun f => h f.1)]
theorem read_int {F : List (List UInt8)} {k : Nat} (hk : k < 5) (h : WM.intE (QM.fAt F (k + 1)) ≠ 0) : readN F = (QM.zero, false) := by
  unfold readN
  rw [if_neg]
  rintro ⟨_, _, h1, h2, h3, h4, h5⟩
  match k, hk with
  | 0, _ => exact h h1
  | 1, _ => exact h h2
  | 2, _ => exact h h3
  | 3, _ => exact h h4
  | 4, _ => exact h h5
theorem read_word {F : List (List UInt8)} (h1 : QM.fAt F 6 ≠ QM.cash) (h2 : QM.fAt F 6 ≠ QM.physical) : readN F = (QM.zero, false) := by
  unfold readN
  rw [if_neg]
  rintro ⟨_, h, _⟩
  rcases h with h | h
  · exact h1 h
  · exact h2 h
theorem read_ok {F : List (List UInt8)} (hl : F.length = 7) (h : QM.fAt F 6 = QM.cash ∨ QM.fAt F 6 = QM.physical) (hi : ∀ j, j < 5 → WM.intE (QM.fAt F (j + 1)) = 0) : readN F = (QM.prodOf F, true) := by
  unfold readN
  rw [if_pos ⟨hl, h, hi 0 (by omega), hi 1 (by omega), hi 2 (by omega), hi 3 (by omega), hi 4 (by omega)⟩]
theorem seven {α : Type} (l : List α) (h : l.length = 7) : ∃ a b c d e f g, l = [a, b, c, d, e, f, g] := by
  match l, h with
  | [a, b, c, d, e, f, g], _ => exact ⟨a, b, c, d, e, f, g, rfl⟩
theorem wordCash {s : ByteArray} : (s.toList == [99, 97, 115, 104]) = decide (L s = QM.cash) := by
  rw [L_toList]
  show (L s == QM.cash) = _
  by_cases h : L s = QM.cash <;> simp [h]
theorem wordPhys {s : ByteArray} : (s.toList == [112, 104, 121, 115, 105, 99, 97, 108]) = decide (L s = QM.physical) := by
  rw [L_toList]
  show (L s == QM.physical) = _
  by_cases h : L s = QM.physical <;> simp [h]
theorem prod_of_seven (s0 s1 s2 s3 s4 s5 s6 : ByteArray) : QM.prodOf (texts [s0, s1, s2, s3, s4, s5, s6]) = ⟨s0, WM.intN (QM.fAt (texts [s0, s1, s2, s3, s4, s5, s6]) 1), WM.intN (QM.fAt (texts [s0, s1, s2, s3, s4, s5, s6]) 2), WM.intN (QM.fAt (texts [s0, s1, s2, s3, s4, s5, s6]) 3), WM.intN (QM.fAt (texts [s0, s1, s2, s3, s4, s5, s6]) 4), WM.intN (QM.fAt (texts [s0, s1, s2, s3, s4, s5, s6]) 5), decide (L s6 = QM.physical)⟩ := by
  show (⟨S (L s0), _, _, _, _, _, _⟩ : QM.Prod) = _
  rw [S_L]; rfl
theorem fAt_strs {f : List ByteArray} {k : Nat} (h : k < f.length) : QM.fAt (texts f) k = L f[k] := by simp [QM.fAt, texts, List.getD, h]

end Go.Proofs.Ytiohainnpjikpaa

/- Contracts of layer 9: a line's fields read as a product. -/
namespace Go.Proofs.Ytiohainnpjikpaa
open Go.RowKit Go.Recs
set_option linter.unusedVariables false

set_option maxHeartbeats 8000000 in
theorem qread_any (A : Option Addr) (f : List ByteArray) (cap : Nat) (w : World) (hS : Strs w A f) :
    Calls Try.prog 38 #[.slice A f.length cap] w fun e w' => e = .returned (.tuple #[prodA (readN (texts f)).1, .bool (readN (texts f)).2]) ∧ Below w.heap.size w w' := by
  have hlen := hS.len
  have KL := Lib.hid (@read_len (texts f)); have KI := Lib.hid (fun k => @read_int (texts f) k); have KW := Lib.hid (@read_word (texts f)); have KO := Lib.hid (@read_ok (texts f))
  have HTL : Hid ((texts f).length = f.length) := Lib.hid (List.length_map _)
  have HB1 := Lib.hid ((Below.refl w.heap.size w).alloc (Nat.le_refl _) (.cells #[.string ⟨#[]⟩, .int .i64 0, .int .i64 0, .int .i64 0, .int .i64 0, .int .i64 0, .bool false] 24))
  have HP1 : Hid (PBox (w.alloc (.cells #[.string ⟨#[]⟩, .int .i64 0, .int .i64 0, .int .i64 0, .int .i64 0, .int .i64 0, .bool false] 24)) w.heap.size QM.zero) := Lib.hid (PBox.new w QM.zero)
  have HB2 := Lib.hid (HB1.out.alloc HB1.out.size (.cells #[.int .i64 0, .int .i64 0, .int .i64 0, .int .i64 0, .int .i64 0] 64))
  have HP2 := Lib.hid (HP1.out.alloc (.cells #[.int .i64 0, .int .i64 0, .int .i64 0, .int .i64 0, .int .i64 0] 64))
  have HA2 := Lib.hid (ARow.new (w.alloc (.cells #[.string ⟨#[]⟩, .int .i64 0, .int .i64 0, .int .i64 0, .int .i64 0, .int .i64 0, .bool false] 24)))
  have HAV : Hid ((w.alloc (.cells #[.string ⟨#[]⟩, .int .i64 0, .int .i64 0, .int .i64 0, .int .i64 0, .int .i64 0, .bool false] 24)).heap.size = w.heap.size + 1) := Lib.hid (by simp)
  rw [HAV.out] at HA2
  have HFS := Lib.hid (fun k hk => @filled_set (texts f) k hk)
  have HFA := Lib.hid (filled_all (texts f))
  by_cases h7 : f.length = 7
  · have HL7 := Lib.hid (HTL.out.trans h7)
    obtain ⟨s0, s1, s2, s3, s4, s5, s6, rfl⟩ := seven f h7
    have HPO := Lib.hid (prod_of_seven s0 s1 s2 s3 s4 s5 s6)
    have HF6 : Hid (QM.fAt (texts [s0, s1, s2, s3, s4, s5, s6]) 6 = L s6) := Lib.hid rfl
    have HFI := Lib.hid (fun k (hk : k < 5) => (@fAt_strs [s0, s1, s2, s3, s4, s5, s6] (k + 1) (by show k + 1 < 7; omega)))
    have hc0 := hS.get (k := 0) (by show 0 < 7; omega)
    obtain ⟨b, off, sx, rfl, hb, _⟩ := hc0
    have hN7 : ([s0, s1, s2, s3, s4, s5, s6] : List ByteArray).length = 7 := rfl
    have HS := Lib.hid hS
    clear hlen h7 hN7 KL HTL
    generalize readN (texts [s0, s1, s2, s3, s4, s5, s6]) = xy at *
    obtain ⟨x, y⟩ := xy
    generalize hF : texts [s0, s1, s2, s3, s4, s5, s6] = F at *
    clear hF hS
    have HA3 : Hid (ARow ((w.alloc (.cells #[.string ⟨#[]⟩, .int .i64 0, .int .i64 0, .int .i64 0, .int .i64 0, .int .i64 0, .bool false] 24)).alloc (.cells #[.int .i64 0, .int .i64 0, .int .i64 0, .int .i64 0, .int .i64 0] 64)) (w.heap.size + 1) (filled F 0)) := HA2
    clear HA2 HAV HB1 HP1
    go_enter Try.func38, Try.ntmps38
    go_wp2_with fail
    generalize (w.alloc (.cells #[.string ⟨#[]⟩, .int .i64 0, .int .i64 0, .int .i64 0, .int .i64 0, .int .i64 0, .bool false] 24)).alloc (.cells #[.int .i64 0, .int .i64 0, .int .i64 0, .int .i64 0, .int .i64 0] 64) = w2 at *
    go_loopw [5, 6, 7, 13] (fun _ _ _ i wr => ∃ k : Nat, k ≤ 5 ∧ i = .int .i64 k ∧ Hid (∀ j, j < k → WM.intE (QM.fAt F (j + 1)) = 0) ∧ Hid (ARow wr (w.heap.size + 1) (filled F k)) ∧ Hid (PBox wr w.heap.size QM.zero) ∧ Hid (Below w.heap.size w wr)) (fun _ _ _ i _ => 5 - (intOf i).toNat)
    case atStart => exact ⟨0, by omega, rfl, Lib.hid (fun j h => by omega), HA3, HP2, HB2⟩
    case round =>
      clear HA3 HP2 HB2
      obtain ⟨k, hk, rfl, HE, HA, HP, HW⟩ := hrel
      by_cases hlt : k < 5
      · obtain ⟨b', off', s, e', hb1, hc, HV, hsz⟩ := (HS.out.below HW.out).get (k := k + 1) (by show k + 1 < 7; omega)
        injection e' with e'; injection e' with e1' e2'; subst e1' e2'
        have hcA : wr.cell? ⟨b, off + (1 + k), none⟩ = some (.string s) := by rw [Nat.add_comm 1 k]; exact hc
        have HFs : Hid (QM.fAt F (k + 1) = L s) := Lib.hid (by rw [HFI.out k hlt, HV.out])
        have C1 := Lib.hid (fun ww => int_any s ww hsz)
        have HFx := Lib.hid (HFS.out k hlt)
        have HKx := Lib.hid (KI.out k hlt)
        rw [HFs.out] at HFx HKx
        have HEE := Lib.hid (fun (h : WM.intE (L s) = 0) => show (∀ j, j < k + 1 → WM.intE (QM.fAt F (j + 1)) = 0) from fun j hj => by
          rcases Nat.lt_or_ge j k with g | g
          · exact HE.out j g
          · obtain rfl : j = k := by omega
            rw [HFs.out]; exact h)
        generalize WM.intE (L s) = ie at *
        generalize WM.intN (L s) = inn at *
        clear HFs HV hsz
        go_wp2_with fail
        refine (C1.out _).mono ?_
        rintro e w3 ⟨rfl, n3, h3⟩
        have HA3 : Hid (ARow w3 (w.heap.size + 1) (filled F k)) := Lib.hid (by rw [h3]; exact HA.out)
        have HP3 : Hid (PBox w3 w.heap.size QM.zero) := Lib.hid (by rw [h3]; exact HP.out)
        have HW3 : Hid (Below w.heap.size w w3) := Lib.hid (by rw [h3]; exact below_drewN HW.out n3)
        clear h3 hc hcA HA HP HW
        by_cases hie : ie = 0
        · subst hie
          have HE2 := Lib.hid (HEE.out rfl)
          have hfk : k < (filled F k).length := hlt
          have a1 := HA3.out.cell k hfk
          have a2 := HA3.out.frozen k
          have HA4 := Lib.hid (HA3.out.set_ k inn)
          rw [HFx.out] at HA4
          have HP4 := Lib.hid (HP3.out.far (q := ⟨w.heap.size + 1, k, none⟩) (by show w.heap.size ≠ w.heap.size + 1; omega) (.int .i64 inn))
          have HW4 := Lib.hid (HW3.out.setCell (p := ⟨w.heap.size + 1, k, none⟩) (by show w.heap.size ≤ w.heap.size + 1; omega) (.int .i64 inn))
          clear hfk
          go_wp2_with fail
          go_roundw
          case rel => exact ⟨k + 1, by omega, by go_num, HE2, HA4, HP4, HW4⟩
          case measure => simp [intOf]; omega
        · have hd : (ie != 0) = true := by simpa using hie
          have HX := Lib.hid (HKx.out hie)
          clear hie
          obtain ⟨c0, c1, c2, c3, c4, c5, c6⟩ := HP3.out.cells
          have f0 := HP3.out.frozen 0; have f1 := HP3.out.frozen 1; have f2 := HP3.out.frozen 2; have f3 := HP3.out.frozen 3; have f4 := HP3.out.frozen 4; have f5 := HP3.out.frozen 5; have f6 := HP3.out.frozen 6
          go_wp2_with fail
          (try simp only [Exit.inBlock, Exit.then])
          refine bodyPost_ret (results_prod rfl _ _ _ _ rfl (HP3.out.put QM.zero)) rfl ⟨?_, PBox.put_below HW3.out (Nat.le_refl _) QM.zero⟩
          have h1 := HX.out; injection h1 with h1 h2; rw [h1, h2]; rfl
      · obtain rfl : k = 5 := by omega
        rw [HFA.out] at HA
        obtain ⟨b', off', t0, e', hb1, hc0, HV0, _⟩ := (HS.out.below HW.out).get (k := 0) (by show 0 < 7; omega)
        injection e' with e'; injection e' with e1' e2'; subst e1' e2'
        obtain rfl : s0 = t0 := HV0.out
        obtain ⟨b', off', t6, e', hb1, hc6, HV6, _⟩ := (HS.out.below HW.out).get (k := 6) (by show 6 < 7; omega)
        injection e' with e'; injection e' with e1' e2'; subst e1' e2'
        obtain rfl : s6 = t6 := HV6.out
        have a0 : wr.cell? ⟨w.heap.size + 1, 0, none⟩ = some (.int .i64 (WM.intN (QM.fAt F 1))) := HA.out.cell 0 (by show 0 < 5; omega)
        have a1 : wr.cell? ⟨w.heap.size + 1, 1, none⟩ = some (.int .i64 (WM.intN (QM.fAt F 2))) := HA.out.cell 1 (by show 1 < 5; omega)
        have a2 : wr.cell? ⟨w.heap.size + 1, 2, none⟩ = some (.int .i64 (WM.intN (QM.fAt F 3))) := HA.out.cell 2 (by show 2 < 5; omega)
        have a3 : wr.cell? ⟨w.heap.size + 1, 3, none⟩ = some (.int .i64 (WM.intN (QM.fAt F 4))) := HA.out.cell 3 (by show 3 < 5; omega)
        have a4 : wr.cell? ⟨w.heap.size + 1, 4, none⟩ = some (.int .i64 (WM.intN (QM.fAt F 5))) := HA.out.cell 4 (by show 4 < 5; omega)
        obtain ⟨c0, c1, c2, c3, c4, c5, c6⟩ := HP.out.cells
        have f0 := HP.out.frozen 0; have f1 := HP.out.frozen 1; have f2 := HP.out.frozen 2; have f3 := HP.out.frozen 3; have f4 := HP.out.frozen 4; have f5 := HP.out.frozen 5; have f6 := HP.out.frozen 6
        have hwp := @wordPhys s6
        have hwc := @wordCash s6
        have hPO := HPO.out
        generalize WM.intN (QM.fAt F 1) = n1 at *
        generalize WM.intN (QM.fAt F 2) = n2 at *
        generalize WM.intN (QM.fAt F 3) = n3 at *
        generalize WM.intN (QM.fAt F 4) = n4 at *
        generalize WM.intN (QM.fAt F 5) = n5 at *
        by_cases hph : L s6 = QM.physical
        · have HX := Lib.hid (KO.out HL7.out (.inr (by rw [HF6.out]; exact hph)) HE.out)
          rw [decide_eq_true hph] at hwp hPO
          rw [hPO] at HX
          have hwe : s6.toList = [112, 104, 121, 115, 105, 99, 97, 108] := by rw [L_toList]; exact hph
          clear hph hwc hPO
          have hc0' : wr.cell? ⟨b, off, none⟩ = some (.string s0) := hc0
          go_wp2_with fail
          go_still_tail 16, (by kernel_rfl)
          change wpList _ _ _ _ _ wr.drew
          have HP3 : Hid (PBox wr.drew w.heap.size QM.zero) := Lib.hid HP.out.drew
          have HW3 : Hid (Below w.heap.size w wr.drew) := Lib.hid HW.out.drew
          generalize wr.drew = w3 at *
          clear c0 c1 c2 c3 c4 c5 c6 f0 f1 f2 f3 f4 f5 f6 a0 a1 a2 a3 a4 hc0 hc6 hc0'
          obtain ⟨c0, c1, c2, c3, c4, c5, c6⟩ := HP3.out.cells
          have f0 := HP3.out.frozen 0; have f1 := HP3.out.frozen 1; have f2 := HP3.out.frozen 2; have f3 := HP3.out.frozen 3; have f4 := HP3.out.frozen 4; have f5 := HP3.out.frozen 5; have f6 := HP3.out.frozen 6
          go_wp2_with fail
          (try simp only [Exit.inBlock, Exit.then])
          refine bodyPost_ret (results_prod rfl _ _ _ _ rfl (HP3.out.put ⟨s0, n1, n2, n3, n4, n5, true⟩)) rfl ⟨?_, PBox.put_below HW3.out (Nat.le_refl _) ⟨s0, n1, n2, n3, n4, n5, true⟩⟩
          have h1 := HX.out; injection h1 with h1 h2; rw [h1, h2]; rfl
        · rw [decide_eq_false hph] at hwp hPO
          by_cases hca : L s6 = QM.cash
          · have HX := Lib.hid (KO.out HL7.out (.inl (by rw [HF6.out]; exact hca)) HE.out)
            rw [decide_eq_true hca] at hwc
            rw [hPO] at HX
            have hwe : s6.toList = [99, 97, 115, 104] := by rw [L_toList]; exact hca
            have hwn : ¬ s6.toList = [112, 104, 121, 115, 105, 99, 97, 108] := by rw [L_toList]; exact hph
            clear hph hca hPO
            have hc0' : wr.cell? ⟨b, off, none⟩ = some (.string s0) := hc0
            go_wp2_with fail
            go_still_tail 16, (by kernel_rfl)
            change wpList _ _ _ _ _ wr.drew
            have HP3 : Hid (PBox wr.drew w.heap.size QM.zero) := Lib.hid HP.out.drew
            have HW3 : Hid (Below w.heap.size w wr.drew) := Lib.hid HW.out.drew
            generalize wr.drew = w3 at *
            clear c0 c1 c2 c3 c4 c5 c6 f0 f1 f2 f3 f4 f5 f6 a0 a1 a2 a3 a4 hc0 hc6 hc0'
            obtain ⟨c0, c1, c2, c3, c4, c5, c6⟩ := HP3.out.cells
            have f0 := HP3.out.frozen 0; have f1 := HP3.out.frozen 1; have f2 := HP3.out.frozen 2; have f3 := HP3.out.frozen 3; have f4 := HP3.out.frozen 4; have f5 := HP3.out.frozen 5; have f6 := HP3.out.frozen 6
            go_wp2_with fail
            (try simp only [Exit.inBlock, Exit.then])
            refine bodyPost_ret (results_prod rfl _ _ _ _ rfl (HP3.out.put ⟨s0, n1, n2, n3, n4, n5, false⟩)) rfl ⟨?_, PBox.put_below HW3.out (Nat.le_refl _) ⟨s0, n1, n2, n3, n4, n5, false⟩⟩
            have h1 := HX.out; injection h1 with h1 h2; rw [h1, h2]; rfl
          · have HX := Lib.hid (KW.out (by rw [HF6.out]; exact hca) (by rw [HF6.out]; exact hph))
            rw [decide_eq_false hca] at hwc
            have hwe : ¬ s6.toList = [99, 97, 115, 104] := by rw [L_toList]; exact hca
            have hwn : ¬ s6.toList = [112, 104, 121, 115, 105, 99, 97, 108] := by rw [L_toList]; exact hph
            clear hph hca hPO
            go_wp2_with fail
            (try simp only [Exit.inBlock, Exit.then])
            refine bodyPost_ret (results_prod rfl _ _ _ _ rfl (HP.out.put QM.zero)) rfl ⟨?_, PBox.put_below HW.out (Nat.le_refl _) QM.zero⟩
            have h1 := HX.out; injection h1 with h1 h2; rw [h1, h2]; rfl
  · have h7i : ((f.length : Int) != 7) = true := by rw [bne, beq_f (by omega)]; rfl
    have HX := Lib.hid (KL.out (by rw [HTL.out]; exact h7))
    generalize readN (texts f) = xy at *
    obtain ⟨x, y⟩ := xy
    clear HP2 HA2 HB2 HAV hS HFS HFA KI KW KO KL HTL
    go_enter Try.func38, Try.ntmps38
    go_wp2_with fail
    (try simp only [Exit.inBlock, Exit.then])
    refine bodyPost_ret (results_prod rfl _ _ _ _ rfl HP1.out) rfl ⟨?_, HB1.out⟩
    have h1 := HX.out; injection h1 with h1 h2; rw [h1, h2]; rfl
end Go.Proofs.Ytiohainnpjikpaa

/- Contracts: fields, the reference's. -/
namespace Go.Proofs.Ytiohainnpjikpaa
open Go.RowKit
set_option linter.unusedVariables false

theorem blank_eq (c : UInt8) : ((c.toNat : Int) != 32) = !(c == 32) := by
  rw [Bool.eq_iff_iff]
  simp only [bne_iff_ne, ne_eq, Bool.not_eq_true', beq_eq_false_iff_ne]
  constructor
  · intro h h'; exact h (by rw [h']; rfl)
  · intro h h'; exact h (UInt8.toNat_inj.1 (by have : (32 : UInt8).toNat = 32 := rfl; omega))

/-- the state of the reference's loop -/
def RF (l : List UInt8) (k f : Nat) (ps : List (List UInt8)) : Prop := WM.FI l k f ps ∨ (k = l.length + 1 ∧ ps = WM.fieldsN l ∧ WM.fieldsE l = 0)

set_option maxHeartbeats 2000000 in
theorem rfields_any (s : ByteArray) (w : World) (hs : s.size ≤ 9223372036854775807) :
    Calls Try.prog 39 #[.string s] w fun e w' => ∃ v, e = .returned (.tuple #[v, .int .i64 (WM.fieldsE (L s))]) ∧ OS w' w.heap.size v (strs (WM.fieldsN (L s))) ∧ Below w.heap.size w w' := by
  by_cases hl : 512 < s.size
  · obtain ⟨e1, e2⟩ := WM.fields_long (l := L s) (by rw [L_len]; exact hl)
    rw [e1, e2]; clear e1 e2
    go_enter Try.func39, Try.ntmps39
    go_wp2
    go_ret2
    exact ⟨_, rfl, OS.nil _ _, Below.refl _ _⟩
  · by_cases h0 : s.size = 0
    · rw [L_nil h0, WM.fields_none.1, WM.fields_none.2]
      have he := isEmpty_true h0
      clear h0
      go_enter Try.func39, Try.ntmps39
      go_wp2
      go_ret2
      exact ⟨_, rfl, OS.nil _ _, Below.refl _ _⟩
    · have hp : 0 < s.size := by omega
      have he := isEmpty_false hp
      have HL1 : Hid ((L s).length ≤ 512) := Lib.hid (by rw [L_len]; omega)
      have HL2 : Hid (L s ≠ []) := Lib.hid (fun h => by have := L_len s; rw [h] at this; simp at this; omega)
      generalize hr : strs (WM.fieldsN (L s)) = res
      generalize hre : WM.fieldsE (L s) = re
      have HR := Lib.hid hr; have HE := Lib.hid hre
      clear hr hre h0
      go_enter Try.func39, Try.ntmps39
      go_wp2
      clear he
      go_loopw [4, 5, 6] (fun v fr i wr => ∃ (k f : Nat) (ps : List (List UInt8)), k ≤ s.size + 1 ∧ f ≤ k ∧ fr = .int .i64 f ∧ i = .int .i64 k ∧ ps.length ≤ s.size + 1 ∧ Hid (RF (L s) k f ps) ∧ Hid (OS wr w.heap.size v (strs ps)) ∧ Hid (Below w.heap.size w wr)) (fun _ _ i _ => s.size + 1 - (intOf i).toNat)
      case atStart => exact ⟨0, 0, [], by omega, by omega, rfl, rfl, by simp, Lib.hid (.inl (WM.FI.start _)), Lib.hid (OS.nil _ _), Lib.hid (Below.refl _ _)⟩
      case round =>
        obtain ⟨k, f, ps, hk, hf, rfl, rfl, hpl, HI, HO, HB⟩ := hrel
        have cf0 : (0 : Int) ≤ (f : Int) := by omega
        have cf1 : (f : Int) ≤ (k : Int) := by omega
        by_cases hk1 : k ≤ s.size
        · have hI : WM.FI (L s) k f ps := by
            rcases HI.out with h | ⟨h, _⟩
            · exact h
            · rw [L_len] at h; omega
          have HF := Lib.hid hI
          have hpl2 : ps.length ≤ s.size := by have := hI.len; rw [L_len] at this; exact this
          clear HI hI
          by_cases hlt : k < s.size
          · have hlt2 : k < (L s).length := by rw [L_len]; exact hlt
            have HLT := Lib.hid hlt2
            clear hlt2
            cases hpn : WM.plain s[k]
            · have hB := HF.out.bad HLT.out (by rw [L_get s k hlt]; exact hpn) HL1.out HL2.out
              have HBad : Hid (re = 5 ∧ res = []) := Lib.hid ⟨by rw [← HE.out, hB.1], by rw [← HR.out, hB.2]; rfl⟩
              clear hB
              rcases WM.plain_false.1 hpn with h | h
              · clear hpn
                go_wp2
                go_ret2
                exact ⟨_, by rw [HBad.out.1]; rfl, by rw [HBad.out.2]; exact OS.nil _ _, HB.out⟩
              · clear hpn
                have h' : decide ((s[k].toNat : Int) < 32) = false := decide_eq_false (by omega)
                go_wp2
                go_ret2
                exact ⟨_, by rw [HBad.out.1]; rfl, by rw [HBad.out.2]; exact OS.nil _ _, HB.out⟩
            · obtain ⟨p1, p2⟩ := WM.plain_true.1 hpn
              have hd := blank_eq s[k]
              cases c32 : (s[k] == 32)
              · rw [c32] at hd
                have hd' : ((s[k].toNat : Int) != 32) = true := hd
                have HN : Hid (RF (L s) (k + 1) f ps) := Lib.hid (.inl (HF.out.in_ HLT.out (by rw [L_get s k hlt]; exact hpn) (by rw [L_get s k hlt]; exact ne_of_beq_false c32)))
                clear hd c32 hpn
                go_wp2
                go_roundw
                case rel => exact ⟨k + 1, f, ps, by omega, by omega, rfl, by go_num, hpl, HN, HO, HB⟩
                case measure => simp [intOf]; omega
              · rw [c32] at hd
                have hd' : ((s[k].toNat : Int) != 32) = false := hd
                have hb : (L s)[k]'HLT.out = 32 := by rw [L_get s k hlt]; exact eq_of_beq c32
                have HBL := Lib.hid hb
                clear hd c32 hpn hb
                by_cases hkf : k = f
                · subst hkf
                  have hB := HF.out.empty_in HLT.out HBL.out HL1.out HL2.out
                  have HBad : Hid (re = 5 ∧ res = []) := Lib.hid ⟨by rw [← HE.out, hB.1], by rw [← HR.out, hB.2]; rfl⟩
                  clear hB
                  go_wp2
                  go_ret2
                  exact ⟨_, by rw [HBad.out.1]; rfl, by rw [HBad.out.2]; exact OS.nil _ _, HB.out⟩
                · have ckf : ((k : Int) == (f : Int)) = false := beq_f (by omega)
                  have hN := HF.out.cut HLT.out HBL.out (by omega)
                  have hpl3 : (ps ++ [((L s).take k).drop f]).length ≤ s.size + 1 := by rw [List.length_append]; simp; omega
                  have HN : Hid (RF (L s) (k + 1) (k + 1) (ps ++ [((L s).take k).drop f])) := Lib.hid (.inl hN)
                  clear hN hkf
                  go_wp2_with (at_builtin; refine wpList_pushS _ (s.extract f k) w.heap.size (strs ps) _ _ rfl rfl _ rfl rfl HO.out ?c1 ?c2 ?_)
                  case c1 => rw [strs_len]; omega
                  case c2 => exact HB.out.size
                  intro v1 w1 o1 b1 _
                  rw [← strs_snoc] at o1
                  have HO1 := Lib.hid o1
                  have HB1 := Lib.hid (HB.out.trans b1)
                  clear o1 b1 HO HB
                  go_wp2
                  go_roundw
                  case rel => exact ⟨k + 1, k + 1, _, by omega, by omega, by go_num, by go_num, hpl3, HN, HO1, HB1⟩
                  case measure => simp [intOf]; omega
          · obtain rfl : k = s.size := by omega
            have hF := HF.out
            rw [← L_len s] at hF
            have HFL := Lib.hid hF
            clear hF HF
            by_cases hkf : s.size = f
            · subst hkf
              have hF := HFL.out
              have hB := WM.FI.empty_end (l := L s) (ps := ps) (by rw [L_len] at hF ⊢; exact hF) HL1.out HL2.out
              have HBad : Hid (re = 5 ∧ res = []) := Lib.hid ⟨by rw [← HE.out, hB.1], by rw [← HR.out, hB.2]; rfl⟩
              clear hB hF
              go_wp2
              go_ret2
              exact ⟨_, by rw [HBad.out.1]; rfl, by rw [HBad.out.2]; exact OS.nil _ _, HB.out⟩
            · have ckf : ((s.size : Int) == (f : Int)) = false := beq_f (by omega)
              have hD := HFL.out.done (by rw [L_len]; omega) HL1.out HL2.out
              rw [L_len] at hD
              have HN : Hid (RF (L s) (s.size + 1) (s.size + 1) (ps ++ [((L s).take s.size).drop f])) := Lib.hid (.inr ⟨by rw [L_len], hD.2.symm, hD.1⟩)
              have hpl3 : (ps ++ [((L s).take s.size).drop f]).length ≤ s.size + 1 := by rw [List.length_append]; simp; omega
              clear hD hkf
              go_wp2_with (at_builtin; refine wpList_pushS _ (s.extract f s.size) w.heap.size (strs ps) _ _ rfl rfl _ rfl rfl HO.out ?c1 ?c2 ?_)
              case c1 => rw [strs_len]; omega
              case c2 => exact HB.out.size
              intro v1 w1 o1 b1 _
              rw [← strs_snoc] at o1
              have HO1 := Lib.hid o1
              have HB1 := Lib.hid (HB.out.trans b1)
              clear o1 b1 HO HB
              go_wp2
              go_roundw
              case rel => exact ⟨s.size + 1, s.size + 1, _, by omega, by omega, by go_num, by go_num, hpl3, HN, HO1, HB1⟩
              case measure => simp [intOf]
        · have hI : k = (L s).length + 1 ∧ ps = WM.fieldsN (L s) ∧ WM.fieldsE (L s) = 0 := by
            rcases HI.out with h | h
            · have := h.1; rw [L_len] at this; omega
            · exact h
          have HD : Hid (re = 0 ∧ strs ps = res) := Lib.hid ⟨by rw [← HE.out, hI.2.2], by rw [← HR.out, hI.2.1]⟩
          have ck : decide (k ≤ s.size) = false := decide_eq_false hk1
          clear hI
          go_wp2
          go_ret2
          exact ⟨_, by rw [HD.out.1]; rfl, by rw [← HD.out.2]; exact HO.out, HB.out⟩
end Go.Proofs.Ytiohainnpjikpaa

/- Contracts: fields, the program's. -/
namespace Go.Proofs.Ytiohainnpjikpaa
open Go.RowKit
set_option linter.unusedVariables false

set_option maxHeartbeats 2000000 in
theorem fields_any (s : ByteArray) (w : World) (hs : s.size ≤ 9223372036854775807) :
    Calls Try.prog 37 #[.string s] w fun e w' => ∃ v, e = .returned (.tuple #[v, .int .i64 (WM.fieldsE (L s))]) ∧ OS w' w.heap.size v (strs (WM.fieldsN (L s))) ∧ Below w.heap.size w w' := by
  by_cases hl : 512 < s.size
  · obtain ⟨e1, e2⟩ := WM.fields_long (l := L s) (by rw [L_len]; exact hl)
    rw [e1, e2]; clear e1 e2
    go_enter Try.func37, Try.ntmps37
    go_wp2
    go_step3
    go_wp2
    rw [Exit.noGoto_ret]
    go_ret2
    exact ⟨_, rfl, OS.nil _ _, Below.refl _ _⟩
  · by_cases h0 : s.size = 0
    · rw [L_nil h0, WM.fields_none.1, WM.fields_none.2]
      have he := isEmpty_true h0
      clear h0
      go_enter Try.func37, Try.ntmps37
      go_wp2
      go_step3
      go_wp2
      rw [Exit.noGoto_ret]
      go_ret2
      exact ⟨_, rfl, OS.nil _ _, Below.refl _ _⟩
    · have hp : 0 < s.size := by omega
      have he := isEmpty_false hp
      have HL1 : Hid ((L s).length ≤ 512) := Lib.hid (by rw [L_len]; omega)
      have HL2 : Hid (L s ≠ []) := Lib.hid (fun h => by have := L_len s; rw [h] at this; simp at this; omega)
      generalize hr : strs (WM.fieldsN (L s)) = res
      generalize hre : WM.fieldsE (L s) = re
      have HR := Lib.hid hr; have HE := Lib.hid hre
      clear hr hre h0
      go_enter Try.func37, Try.ntmps37
      go_wp2
      go_step3
      go_wp2
      go_step3
      go_wp2
      clear he
      go_loopg [2, 3, 4] (s.size + 1) (fun g v e fr wr => ∃ (f : Nat) (ps : List (List UInt8)), f + g ≤ s.size + 1 ∧ s.size + 1 ≤ f + g ∧ e = .int .i64 0 ∧ fr = .int .i64 f ∧ ps.length ≤ s.size + 1 ∧ Hid (RF (L s) f f ps) ∧ Hid (OS wr w.heap.size v (strs ps)) ∧ Hid (Below w.heap.size w wr))
      case atStart => exact ⟨0, [], by omega, by omega, rfl, rfl, by simp, Lib.hid (.inl (WM.FI.start _)), Lib.hid (OS.nil _ _), Lib.hid (Below.refl _ _)⟩
      case round =>
        obtain ⟨f, ps, hg1, hg2, rfl, rfl, hpl, HI, HO, HB⟩ := hrel
        by_cases hk1 : f ≤ s.size
        · have hI : WM.FI (L s) f f ps := by
            rcases HI.out with h | ⟨h, _⟩
            · exact h
            · rw [L_len] at h; omega
          have HF := Lib.hid hI
          clear HI hI
          generalize gk = go at *
          generalize wr = wo at *
          go_wp2
          go_loopg [3, 5] (s.size - f) (fun g e en wy => ∃ k : Nat, k + g ≤ s.size ∧ s.size ≤ k + g ∧ f ≤ k ∧ e = .int .i64 0 ∧ en = .int .i64 k ∧ Hid (WM.FI (L s) k f ps) ∧ wy = wo)
          case atStart => exact ⟨f, by omega, by omega, by omega, rfl, rfl, HF, rfl⟩
          case round =>
            clear HF
            obtain ⟨k, hi1, hi2, hfk, rfl, rfl, HF, rfl⟩ := hrel
            have cf0 : (0 : Int) ≤ (f : Int) := by omega
            have cf1 : (f : Int) ≤ (k : Int) := by omega
            have hpl2 : ps.length ≤ s.size := by have := HF.out.len; rw [L_len] at this; exact this
            by_cases hlt : k < s.size
            · have hlt2 : k < (L s).length := by rw [L_len]; exact hlt
              have HLT := Lib.hid hlt2
              clear hlt2
              have hd := blank_eq s[k]
              cases c32 : (s[k] == 32)
              · rw [c32] at hd
                have hd' : ((s[k].toNat : Int) != 32) = true := hd
                have C32 := Lib.hid c32
                clear hd c32
                cases hpn : WM.plain s[k]
                · have hB := HF.out.bad HLT.out (by rw [L_get s k hlt]; exact hpn) HL1.out HL2.out
                  have HBad : Hid (re = 5 ∧ res = []) := Lib.hid ⟨by rw [← HE.out, hB.1], by rw [← HR.out, hB.2]; rfl⟩
                  clear hB
                  rcases WM.plain_false.1 hpn with h | h
                  · clear hpn
                    go_wp2
                    try rw [Exit.noGoto_ret]
                    go_ret2
                    exact ⟨_, by rw [HBad.out.1]; rfl, by rw [HBad.out.2]; exact OS.nil _ _, HB.out⟩
                  · clear hpn
                    have h' : decide ((s[k].toNat : Int) < 32) = false := decide_eq_false (by omega)
                    go_wp2
                    try rw [Exit.noGoto_ret]
                    go_ret2
                    exact ⟨_, by rw [HBad.out.1]; rfl, by rw [HBad.out.2]; exact OS.nil _ _, HB.out⟩
                · obtain ⟨p1, p2⟩ := WM.plain_true.1 hpn
                  have HN := Lib.hid (HF.out.in_ HLT.out (by rw [L_get s k hlt]; exact hpn) (by rw [L_get s k hlt]; exact ne_of_beq_false C32.out))
                  clear hpn
                  go_wp2
                  go_roundg (s.size - (k + 1))
                  case measure => omega
                  case rel => exact ⟨k + 1, by omega, by omega, by omega, rfl, by go_num, HN, rfl⟩
              · rw [c32] at hd
                have hd' : ((s[k].toNat : Int) != 32) = false := hd
                have hb : (L s)[k]'HLT.out = 32 := by rw [L_get s k hlt]; exact eq_of_beq c32
                have HBL := Lib.hid hb
                clear hd c32 hb
                by_cases hkf : k = f
                · subst hkf
                  have hB := HF.out.empty_in HLT.out HBL.out HL1.out HL2.out
                  have HBad : Hid (re = 5 ∧ res = []) := Lib.hid ⟨by rw [← HE.out, hB.1], by rw [← HR.out, hB.2]; rfl⟩
                  clear hB
                  go_wp2
                  try rw [Exit.noGoto_ret]
                  go_ret2
                  exact ⟨_, by rw [HBad.out.1]; rfl, by rw [HBad.out.2]; exact OS.nil _ _, HB.out⟩
                · have ckf : ((k : Int) == (f : Int)) = false := beq_f (by omega)
                  have hN := HF.out.cut HLT.out HBL.out (by omega)
                  have hpl3 : (ps ++ [((L s).take k).drop f]).length ≤ s.size + 1 := by rw [List.length_append]; simp; omega
                  have HN : Hid (RF (L s) (k + 1) (k + 1) (ps ++ [((L s).take k).drop f])) := Lib.hid (.inl hN)
                  clear hN hkf
                  go_wp2_with (at_builtin; refine wpList_pushS _ (s.extract f k) w.heap.size (strs ps) _ _ rfl rfl _ rfl rfl HO.out ?c1 ?c2 ?_)
                  case c1 => rw [strs_len]; omega
                  case c2 => exact HB.out.size
                  intro v1 w1 o1 b1 _
                  rw [← strs_snoc] at o1
                  have HO1 := Lib.hid o1
                  have HB1 := Lib.hid (HB.out.trans b1)
                  clear o1 b1 HO HB
                  go_wp2
                  go_roundg (s.size + 1 - (k + 1))
                  case measure => omega
                  case rel => exact ⟨k + 1, _, by omega, by omega, rfl, by go_num, hpl3, HN, HO1, HB1⟩
            · obtain rfl : k = s.size := by omega
              have hF := HF.out
              rw [← L_len s] at hF
              have HFL := Lib.hid hF
              clear hF HF
              by_cases hkf : s.size = f
              · subst hkf
                have hF := HFL.out
                have hB := WM.FI.empty_end (l := L s) (ps := ps) (by rw [L_len] at hF ⊢; exact hF) HL1.out HL2.out
                have HBad : Hid (re = 5 ∧ res = []) := Lib.hid ⟨by rw [← HE.out, hB.1], by rw [← HR.out, hB.2]; rfl⟩
                clear hB hF
                go_wp2
                try rw [Exit.noGoto_ret]
                go_ret2
                exact ⟨_, by rw [HBad.out.1]; rfl, by rw [HBad.out.2]; exact OS.nil _ _, HB.out⟩
              · have ckf : ((s.size : Int) == (f : Int)) = false := beq_f (by omega)
                have hD := HFL.out.done (by rw [L_len]; omega) HL1.out HL2.out
                rw [L_len] at hD
                have HN : Hid (RF (L s) (s.size + 1) (s.size + 1) (ps ++ [((L s).take s.size).drop f])) := Lib.hid (.inr ⟨by rw [L_len], hD.2.symm, hD.1⟩)
                have hpl3 : (ps ++ [((L s).take s.size).drop f]).length ≤ s.size + 1 := by rw [List.length_append]; simp; omega
                clear hD hkf
                go_wp2_with (at_builtin; refine wpList_pushS _ (s.extract f s.size) w.heap.size (strs ps) _ _ rfl rfl _ rfl rfl HO.out ?c1 ?c2 ?_)
                case c1 => rw [strs_len]; omega
                case c2 => exact HB.out.size
                intro v1 w1 o1 b1 _
                rw [← strs_snoc] at o1
                have HO1 := Lib.hid o1
                have HB1 := Lib.hid (HB.out.trans b1)
                clear o1 b1 HO HB
                go_wp2
                go_roundg 0
                case measure => omega
                case rel => exact ⟨s.size + 1, _, by omega, by omega, rfl, by go_num, hpl3, HN, HO1, HB1⟩
        · have hI : f = (L s).length + 1 ∧ ps = WM.fieldsN (L s) ∧ WM.fieldsE (L s) = 0 := by
            rcases HI.out with h | h
            · have := h.1; rw [L_len] at this; omega
            · exact h
          have HD : Hid (re = 0 ∧ strs ps = res) := Lib.hid ⟨by rw [← HE.out, hI.2.2], by rw [← HR.out, hI.2.1]⟩
          have ck : decide (f ≤ s.size) = false := decide_eq_false hk1
          clear hI
          go_wp2
          try rw [Exit.noGoto_ret]
          go_ret2
          exact ⟨_, by rw [HD.out.1]; rfl, by rw [← HD.out.2]; exact HO.out, HB.out⟩
end Go.Proofs.Ytiohainnpjikpaa

/- How long pieces are; fields that are put together. -/
namespace WM
set_option linter.unusedVariables false
theorem run_le (b : UInt8) (l : List UInt8) : (∀ p ∈ (run b l).1, p.length ≤ l.length) ∧ (run b l).2.length ≤ l.length := by
  induction l using snoc_ind with
  | h0 => simp [run_nil]
  | h1 l c ih =>
    obtain ⟨h1, h2⟩ := ih
    by_cases h : c = b
    · subst h
      rw [run_snoc_at]
      refine ⟨?_, by simp⟩
      intro p hp
      rw [List.length_append]
      simp only [List.mem_append, List.mem_singleton] at hp
      rcases hp with hp | rfl
      · have := h1 p hp; omega
      · omega
    · rw [run_snoc_in h]
      refine ⟨?_, by simp; omega⟩
      intro p hp
      have := h1 p hp
      rw [List.length_append]; omega
theorem pieces_le {b : UInt8} {l p : List UInt8} (h : p ∈ pieces b l) : p.length ≤ l.length := by
  unfold pieces at h
  simp only [List.mem_append, List.mem_singleton] at h
  rcases h with h | rfl
  · exact (run_le b l).1 p h
  · exact (run_le b l).2
theorem fields_le {l p : List UInt8} (h : p ∈ fieldsN l) : p.length ≤ l.length := by
  unfold fieldsN at h
  split at h
  · exact pieces_le h
  · simp at h
theorem lines_le {l p : List UInt8} (h : p ∈ linesN l) : p.length ≤ l.length := by
  unfold linesN at h
  split at h
  · simp at h
  · split at h
    · exact (run_le 10 l).1 p h
    · exact pieces_le h
theorem tl_le (m : Nat) (ps : List (List UInt8)) (h : ∀ p ∈ ps, p.length ≤ m) : tl 1 (ps.map List.length) ≤ ps.length * (m + 1) := by
  induction ps with
  | nil => simp [tl]
  | cons p ps ih =>
    have e : tl 1 ((p :: ps).map List.length) = p.length + 1 + tl 1 (ps.map List.length) := by simp [tl]
    have h1 := h p (by simp)
    have h2 := ih (fun q hq => h q (by simp [hq]))
    rw [e, List.length_cons, Nat.succ_mul]
    omega
theorem fields_count (l : List UInt8) : (fieldsN l).length ≤ l.length + 1 := by
  unfold fieldsN
  split
  · unfold pieces
    have := run_len 32 l
    rw [List.length_append]; simp; omega
  · simp
theorem fields_short {l : List UInt8} (h : fieldsE l = 0) : l.length ≤ 512 := by
  unfold fieldsE at h
  split at h
  · omega
  · omega
theorem fields_tl {l : List UInt8} (h : fieldsE l = 0) : tl 1 ((fieldsN l).map List.length) ≤ 263169 := by
  have h1 := fields_short h
  have h2 := tl_le 512 (fieldsN l) (fun p hp => by have := fields_le hp; omega)
  have h3 := fields_count l
  have h4 : (fieldsN l).length * (512 + 1) ≤ 513 * 513 := Nat.mul_le_mul (by omega) (by omega)
  omega
theorem sign_range (v : Int) (b : Bool) (h : 0 ≤ v) : -1152921504606846976 ≤ signN v b ∧ signN v b ≤ 1152921504606846976 := by
  unfold signN most
  split
  · omega
  · split
    · omega
    · split <;> omega
theorem int_range (l : List UInt8) : -1152921504606846976 ≤ intN l ∧ intN l ≤ 1152921504606846976 := by
  unfold intN
  split
  · rename_i h; exact sign_range _ _ (val_nonneg (digits_all h))
  · omega
theorem cents_range (l : List UInt8) : -1152921504606846976 ≤ centsN l ∧ centsN l ≤ 1152921504606846976 := by
  unfold centsN
  split
  · rename_i h; exact sign_range _ _ (money_of h).1
  · omega
theorem text_len (n : Int) (h : n.natAbs < 18446744073709551616) : 1 ≤ (textL n).length := by
  unfold textL
  have := dec_length n.natAbs
  split <;> simp <;> omega
end WM
