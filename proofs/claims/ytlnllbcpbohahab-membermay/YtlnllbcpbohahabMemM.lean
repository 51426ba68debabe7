/- Contracts of layer 11: the reference's Account, May. -/
import Derived.Test.YtlnllbcpbohahabMemL
namespace Go.Proofs.Ytlnllbcpbohahab
open Go.RowKit Go.Recs
set_option linter.unusedVariables false
set_option linter.unusedSimpArgs false

def foundA (l : List MM.Ac) (a : ByteArray) : MM.Ac := match MM.pa l a with
  | some k => aAt l k
  | none => ⟨MM.nil, 0⟩
theorem fa_hit {l : List MM.Ac} {a : ByteArray} {k : Nat} (hk : k < l.length) (hj : ∀ j, j < k → MM.eq (aAt l j).name a = false) (h : MM.eq (aAt l k).name a = true) : foundA l a = aAt l k ∧ (MM.pa l a).isSome = true := by
  have e : MM.pa l a = some k := MM.find_some hk (fun j hjl hjk => by rw [← aAt_get hjl]; exact hj j hjk) (by rw [← aAt_get hk]; exact h)
  unfold foundA
  rw [e]; exact ⟨rfl, rfl⟩
theorem fa_miss {l : List MM.Ac} {a : ByteArray} (h : ∀ j, j < l.length → MM.eq (aAt l j).name a = false) : foundA l a = ⟨MM.nil, 0⟩ ∧ (MM.pa l a).isSome = false := by
  have e : MM.pa l a = none := MM.find_none (fun j hjl => by rw [← aAt_get hjl]; exact h j hjl)
  unfold foundA
  rw [e]; exact ⟨rfl, rfl⟩

theorem ry_none {l : List MM.Mem} {n a : ByteArray} {act : Int} (h : (MM.pl l n).isSome = false) : MM.mayE l n a act = 20 := by
  cases e : MM.pl l n with
  | none => exact my_none e
  | some i => rw [e] at h; cases h
theorem ry_acc {l : List MM.Mem} {n a : ByteArray} {act : Int} (h : (MM.pl l n).isSome = true) (h2 : (MM.pa (foundM l n).accs a).isSome = false) : MM.mayE l n a act = 21 := by
  cases e : MM.pl l n with
  | none => rw [e] at h; cases h
  | some i =>
    have : foundM l n = MM.mAt l i := by unfold foundM; rw [e]
    rw [this] at h2
    exact my_acc e h2
theorem ry_state {l : List MM.Mem} {n a : ByteArray} {act : Int} (h : (MM.pl l n).isSome = true) (h2 : (MM.pa (foundM l n).accs a).isSome = true) : MM.mayE l n a act = if MM.allows (foundM l n).status act = true then 0 else 13 := by
  cases e : MM.pl l n with
  | none => rw [e] at h; cases h
  | some i =>
    have : foundM l n = MM.mAt l i := by unfold foundM; rw [e]
    rw [this] at h2 ⊢
    exact my_state e h2

end Go.Proofs.Ytlnllbcpbohahab
