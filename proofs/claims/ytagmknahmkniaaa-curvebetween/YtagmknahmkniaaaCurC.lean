/- Contracts of layer 19: slices.Clone at points. -/
import Derived.Test.YtagmknahmkniaaaPtBox
import Derived.Test.YtagmknahmkniaaaRecsCat
import Derived.Lib.SliceRun
namespace Go.Proofs.Ytagmknahmkniaaa
open Go.RowKit Go.Recs
set_option linter.unusedVariables false
set_option linter.unusedSimpArgs false
set_option maxHeartbeats 2000000 in
theorem uclone_any (A : Option Addr) (rows : List (List Value)) (n cap : Nat) (w : World) (hn : n = rows.length) (h1 : ∀ r ∈ rows, ∀ u ∈ r, u.oneCell' = true) (hI : Recs w A 3 rows) (hl : rows.length * 24 ≤ 140737488355328) :
    Calls Try.prog 31 #[.slice A n cap] w fun e w' => ∃ v, e = .returned v ∧ OwnR w' w.heap.size 44 3 v rows ∧ Below w.heap.size w w' := by
  subst hn
  cases A with
  | none =>
    have : rows = [] := by
      rcases hI.2.2 with h | ⟨b, off, e, _⟩
      · exact h
      · cases e
    subst this
    have hq : ∀ (w : World), (binOp .eql 22 (.slice none 0 cap) (.slice none 0 0)).run Try.prog w = .ok (.bool true) w := fun w => Lib.run_eql_slice_nil w _ _ none 0 cap 0 0 Try.underlying22
    clear hI hl h1
    go_enter Try.func31, Try.ntmps31
    go_wp2_with fail
    go_ret
    exact ⟨_, rfl, OwnR.nil _ _ _ _, Below.refl _ _⟩
  | some ad =>
    have hq : ∀ (w : World) (n c n' c' : Nat), (binOp .eql 22 (.slice (some ad) n c) (.slice none n' c')).run Try.prog w = .ok (.bool false) w := fun w n c n' c' => Lib.run_eql_slice_nil w _ _ (some ad) n c n' c' Try.underlying22
    have hmx : rows.length ≤ maxLen := hI.1
    have HI := Lib.hid hI
    have HL := Lib.hid hl
    have HMX := Lib.hid hmx
    have HBE : Hid (Below w.heap.size w (w.alloc (.cells #[] 44))) := Lib.hid ((Below.refl _ _).alloc (Nat.le_refl _) _)
    clear hI hl hmx
    go_enter Try.func31, Try.ntmps31
    go_wp2_with (at_builtin; refine wpList_catR _ w.heap.size [] rows _ _ _ 44 3 24 _ Try.underlying22 info_pt rfl (by decide) rfl rfl _ _ _ _ rfl rfl ?c0 ?c1 ?c2 h1 ?c3 ?c4 ?c5 ?_)
    case c0 => rfl
    case c1 => exact OwnR.empty w w.heap.size 44 3 (Nat.le_refl _)
    case c2 => exact HI.out.below HBE.out
    case c3 => have := HL.out; simpa using this
    case c4 => have := HMX.out; simpa using this
    case c5 => simp
    rintro v1 w1 hO hb hg
    have HO : Hid (OwnR w1 w.heap.size 44 3 v1 rows) := Lib.hid (by simpa using hO)
    have HB1 := Lib.hid (HBE.out.trans hb)
    clear hO hb hg
    go_wp2_with fail
    go_ret
    exact ⟨_, rfl, HO.out, HB1.out⟩

end Go.Proofs.Ytagmknahmkniaaa
