/- Contracts of layer 11: lists with one more, and with accounts of their own. -/
import Derived.Test.YtlnllbcpbohahabMemE
import Derived.Test.YtlnllbcpbohahabRecsCut
import Derived.Lib.SliceRun
namespace Go.Proofs.Ytlnllbcpbohahab
open Go.RowKit Go.Recs
set_option linter.unusedVariables false
set_option linter.unusedSimpArgs false
theorem info_mem : (Try.prog.info? 29).map (fun i => (i.zero, i.size, i.bytes)) = some (some (.agg #[.string ⟨#[]⟩, .int .i64 0, .slice none 0 0]), 3, 48) := by kernel_rfl
theorem info_acc : (Try.prog.info? 26).map (fun i => (i.zero, i.size, i.bytes)) = some (some (.agg #[.string ⟨#[]⟩, .int .i64 0]), 2, 24) := by kernel_rfl

set_option maxHeartbeats 2000000 in
theorem aclone_any (A : Option Addr) (rows : List (List Value)) (n cap : Nat) (w : World) (hn : n = rows.length) (h1 : ∀ r ∈ rows, ∀ u ∈ r, u.oneCell' = true) (hI : Recs w A 2 rows) (hl : rows.length * 24 ≤ 140737488355328) :
    Calls Try.prog 29 #[.slice A n cap] w fun e w' => ∃ v, e = .returned v ∧ OwnR w' w.heap.size 26 2 v rows ∧ Below w.heap.size w w' := by
  subst hn
  cases A with
  | none =>
    have : rows = [] := by
      rcases hI.2.2 with h | ⟨b, off, e, _⟩
      · exact h
      · cases e
    subst this
    have hq : ∀ (w : World), (binOp .eql 27 (.slice none 0 cap) (.slice none 0 0)).run Try.prog w = .ok (.bool true) w := fun w => Lib.run_eql_slice_nil w _ _ none 0 cap 0 0 Try.underlying27
    clear hI hl h1
    go_enter Try.func29, Try.ntmps29
    go_wp2_with fail
    go_ret
    exact ⟨_, rfl, OwnR.nil _ _ _ _, Below.refl _ _⟩
  | some ad =>
    have hq : ∀ (w : World) (n c n' c' : Nat), (binOp .eql 27 (.slice (some ad) n c) (.slice none n' c')).run Try.prog w = .ok (.bool false) w := fun w n c n' c' => Lib.run_eql_slice_nil w _ _ (some ad) n c n' c' Try.underlying27
    have hmx : rows.length ≤ maxLen := hI.1
    have HI := Lib.hid hI
    have HL := Lib.hid hl
    have HMX := Lib.hid hmx
    have HBE : Hid (Below w.heap.size w (w.alloc (.cells #[] 26))) := Lib.hid ((Below.refl _ _).alloc (Nat.le_refl _) _)
    clear hI hl hmx
    go_enter Try.func29, Try.ntmps29
    go_wp2_with (at_builtin; refine wpList_catR _ w.heap.size [] rows _ _ _ 26 2 24 _ Try.underlying27 info_acc rfl (by decide) rfl rfl _ _ _ _ rfl rfl ?c0 ?c1 ?c2 h1 ?c3 ?c4 ?c5 ?_)
    case c0 => rfl
    case c1 => exact OwnR.empty w w.heap.size 26 2 (Nat.le_refl _)
    case c2 => exact HI.out.below HBE.out
    case c3 => have := HL.out; simpa using this
    case c4 => have := HMX.out; simpa using this
    case c5 => simp
    rintro v1 w1 hO hb hg
    have HO : Hid (OwnR w1 w.heap.size 26 2 v1 rows) := Lib.hid (by simpa using hO)
    have HB1 := Lib.hid (HBE.out.trans hb)
    clear hO hb hg
    go_wp2_with fail
    go_ret
    exact ⟨_, rfl, HO.out, HB1.out⟩

set_option maxHeartbeats 2000000 in
theorem mclone_any (A : Option Addr) (rows : List (List Value)) (n cap : Nat) (w : World) (hn : n = rows.length) (h1 : ∀ r ∈ rows, ∀ u ∈ r, u.oneCell' = true) (hI : Recs w A 3 rows) (hl : rows.length * 48 ≤ 140737488355328) :
    Calls Try.prog 28 #[.slice A n cap] w fun e w' => ∃ v, e = .returned v ∧ OwnR w' w.heap.size 29 3 v rows ∧ Below w.heap.size w w' := by
  subst hn
  cases A with
  | none =>
    have : rows = [] := by
      rcases hI.2.2 with h | ⟨b, off, e, _⟩
      · exact h
      · cases e
    subst this
    have hq : ∀ (w : World), (binOp .eql 30 (.slice none 0 cap) (.slice none 0 0)).run Try.prog w = .ok (.bool true) w := fun w => Lib.run_eql_slice_nil w _ _ none 0 cap 0 0 Try.underlying30
    clear hI hl h1
    go_enter Try.func28, Try.ntmps28
    go_wp2_with fail
    go_ret
    exact ⟨_, rfl, OwnR.nil _ _ _ _, Below.refl _ _⟩
  | some ad =>
    have hq : ∀ (w : World) (n c n' c' : Nat), (binOp .eql 30 (.slice (some ad) n c) (.slice none n' c')).run Try.prog w = .ok (.bool false) w := fun w n c n' c' => Lib.run_eql_slice_nil w _ _ (some ad) n c n' c' Try.underlying30
    have hmx : rows.length ≤ maxLen := hI.1
    have HI := Lib.hid hI
    have HL := Lib.hid hl
    have HMX := Lib.hid hmx
    have HBE : Hid (Below w.heap.size w (w.alloc (.cells #[] 29))) := Lib.hid ((Below.refl _ _).alloc (Nat.le_refl _) _)
    clear hI hl hmx
    go_enter Try.func28, Try.ntmps28
    go_wp2_with (at_builtin; refine wpList_catR _ w.heap.size [] rows _ _ _ 29 3 48 _ Try.underlying30 info_mem rfl (by decide) rfl rfl _ _ _ _ rfl rfl ?c0 ?c1 ?c2 h1 ?c3 ?c4 ?c5 ?_)
    case c0 => rfl
    case c1 => exact OwnR.empty w w.heap.size 29 3 (Nat.le_refl _)
    case c2 => exact HI.out.below HBE.out
    case c3 => have := HL.out; simpa using this
    case c4 => have := HMX.out; simpa using this
    case c5 => simp
    rintro v1 w1 hO hb hg
    have HO : Hid (OwnR w1 w.heap.size 29 3 v1 rows) := Lib.hid (by simpa using hO)
    have HB1 := Lib.hid (HBE.out.trans hb)
    clear hO hb hg
    go_wp2_with fail
    go_ret
    exact ⟨_, rfl, HO.out, HB1.out⟩
end Go.Proofs.Ytlnllbcpbohahab
