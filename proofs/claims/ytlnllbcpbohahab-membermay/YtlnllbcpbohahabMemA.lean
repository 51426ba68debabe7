/- Contracts of layer 11: boxes, states and kinds, the closures. -/
import Derived.Test.YtlnllbcpbohahabMemCells
import Derived.Test.YtlnllbcpbohahabMade
import Derived.Test.YtlnllbcpbohahabWordsE
import Derived.Test.YtlnllbcpbohahabStrEq
import Derived.Laws.StructEq
import Derived.Laws.ResultCell
import Derived.Laws.Rows
namespace Go.Proofs.Ytlnllbcpbohahab
open Go.RowKit Go.Recs
set_option linter.unusedVariables false
set_option linter.unusedSimpArgs false

/-- block g is just the cells cs -/
def CB (w : World) (g : Nat) (t : TypeId) (cs : Array Value) : Prop := w.heap[g]? = some (.cells cs t (0, 0))
section
variable {w w' : World} {g B : Nat} {t : TypeId} {cs : Array Value}
theorem CB.new (w : World) (t : TypeId) (cs : Array Value) : CB (w.alloc (.cells cs t)) w.heap.size t cs := heap_alloc_new w _
theorem CB.below (h : CB w g t cs) (hb : Below B w w') (hg : g < B) : CB w' g t cs := (hb.block g hg).trans h
theorem CB.lt (h : CB w g t cs) : g < w.heap.size := lt_of_block h
theorem CB.cell (h : CB w g t cs) (i : Nat) : w.cell? ⟨g, i, none⟩ = cs[i]? := by unfold CB at h; simp [World.cell?, h]
theorem CB.alloc (h : CB w g t cs) (o : Obj) : CB (w.alloc o) g t cs := (Below.heap_alloc w o g h.lt).trans h
theorem CB.drewN (h : CB w g t cs) (n : Nat) : CB (w.drewN n) g t cs := h
theorem CB.frozen (h : CB w g t cs) (i : Nat) : w.frozen? ⟨g, i, none⟩ = false := by unfold CB at h; simp [World.frozen?, h]
theorem CB.set_ (h : CB w g t cs) (i : Nat) (u : Value) : CB (w.setCell ⟨g, i, none⟩ u) g t (cs.setIfInBounds i u) := by
  unfold CB at h ⊢
  simp [World.setCell, Array.getElem?_modify, h]
theorem CB.far (h : CB w g t cs) {p : Addr} (hp : g ≠ p.block) (u : Value) : CB (w.setCell p u) g t cs := (Below.heap_setCell w p u g hp).trans h
end
abbrev accA (a : MM.Ac) : Value := .agg #[.string a.name, .int .i64 a.kind]
abbrev memA (m : MM.Mem) (A : Option Addr) (cap : Nat) : Value := .agg #[.string m.name, .int .i64 m.status, .slice A m.accs.length cap]
abbrev keyA (n a : ByteArray) : Value := .agg #[.string n, .string a]
abbrev accC (a : MM.Ac) : Array Value := #[.string a.name, .int .i64 a.kind]
abbrev memC (m : MM.Mem) (A : Option Addr) (cap : Nat) : Array Value := #[.string m.name, .int .i64 m.status, .slice A m.accs.length cap]
abbrev keyC (n a : ByteArray) : Array Value := #[.string n, .string a]

theorem isStatus_any (n : Int) (w : World) :
    Calls Try.prog 33 #[.int .i64 n] w fun e w' => e = .returned (.bool (MM.statOk n)) ∧ w = w' := by
  have hc : n = 1 ∨ n = 2 ∨ n = 3 ∨ n = 4 ∨ (¬ n = 1 ∧ ¬ n = 2 ∧ ¬ n = 3 ∧ ¬ n = 4) := by omega
  rcases hc with rfl | rfl | rfl | rfl | ⟨h1, h2, h3, h4⟩
  · go_enter Try.func33, Try.ntmps33
    go_wp2
    go_ret
    exact ⟨rfl, rfl⟩
  · go_enter Try.func33, Try.ntmps33
    go_wp2
    go_ret
    exact ⟨rfl, rfl⟩
  · go_enter Try.func33, Try.ntmps33
    go_wp2
    go_ret
    exact ⟨rfl, rfl⟩
  · go_enter Try.func33, Try.ntmps33
    go_wp2
    go_ret
    exact ⟨rfl, rfl⟩
  · have e : MM.statOk n = false := by unfold MM.statOk; rw [Bool.and_eq_false_iff]; simp only [decide_eq_false_iff_not]; omega
    rw [e]; clear e
    go_enter Try.func33, Try.ntmps33
    go_wp2
    go_ret
    exact ⟨rfl, rfl⟩

theorem isKind_any (n : Int) (w : World) :
    Calls Try.prog 30 #[.int .i64 n] w fun e w' => e = .returned (.bool (MM.kindOk n)) ∧ w = w' := by
  have hc : n = 1 ∨ n = 2 ∨ n = 3 ∨ (¬ n = 1 ∧ ¬ n = 2 ∧ ¬ n = 3) := by omega
  rcases hc with rfl | rfl | rfl | ⟨h1, h2, h3⟩
  · go_enter Try.func30, Try.ntmps30
    go_wp2
    go_ret
    exact ⟨rfl, rfl⟩
  · go_enter Try.func30, Try.ntmps30
    go_wp2
    go_ret
    exact ⟨rfl, rfl⟩
  · go_enter Try.func30, Try.ntmps30
    go_wp2
    go_ret
    exact ⟨rfl, rfl⟩
  · have e : MM.kindOk n = false := by unfold MM.kindOk; rw [Bool.and_eq_false_iff]; simp only [decide_eq_false_iff_not]; omega
    rw [e]; clear e
    go_enter Try.func30, Try.ntmps30
    go_wp2
    go_ret
    exact ⟨rfl, rfl⟩

theorem isWind_any (n : Int) (w : World) :
    Calls Try.prog 24 #[.int .i64 n] w fun e w' => e = .returned (.bool (decide (4 ≤ n) && decide (n ≤ 8))) ∧ w = w' := by
  have hc : n = 4 ∨ n = 5 ∨ n = 6 ∨ n = 7 ∨ n = 8 ∨ (¬ n = 4 ∧ ¬ n = 5 ∧ ¬ n = 6 ∧ ¬ n = 7 ∧ ¬ n = 8) := by omega
  rcases hc with rfl | rfl | rfl | rfl | rfl | ⟨h1, h2, h3, h4, h5⟩
  · go_enter Try.func24, Try.ntmps24
    go_wp2
    go_ret
    exact ⟨rfl, rfl⟩
  · go_enter Try.func24, Try.ntmps24
    go_wp2
    go_ret
    exact ⟨rfl, rfl⟩
  · go_enter Try.func24, Try.ntmps24
    go_wp2
    go_ret
    exact ⟨rfl, rfl⟩
  · go_enter Try.func24, Try.ntmps24
    go_wp2
    go_ret
    exact ⟨rfl, rfl⟩
  · go_enter Try.func24, Try.ntmps24
    go_wp2
    go_ret
    exact ⟨rfl, rfl⟩
  · have e : (decide (4 ≤ n) && decide (n ≤ 8)) = false := by rw [Bool.and_eq_false_iff]; simp only [decide_eq_false_iff_not]; omega
    rw [e]; clear e
    go_enter Try.func24, Try.ntmps24
    go_wp2
    go_ret
    exact ⟨rfl, rfl⟩

theorem allows_any (s act : Int) (w : World) :
    Calls Try.prog 12 #[.int .i64 s, .int .i64 act] w fun e w' => e = .returned (.bool (MM.allows s act)) ∧ w = w' := by
  have C := Lib.hid (fun ww => isWind_any act ww)
  have hc : s = 1 ∨ s = 2 ∨ s = 3 ∨ (¬ s = 1 ∧ ¬ s = 2 ∧ ¬ s = 3) := by omega
  rcases hc with rfl | rfl | rfl | ⟨h1, h2, h3⟩
  · rw [show MM.allows 1 act = true from rfl]
    go_enter Try.func12, Try.ntmps12
    go_wp2
    go_ret
    exact ⟨rfl, rfl⟩
  · have hd : act = 1 ∨ act = 3 ∨ (¬ act = 1 ∧ ¬ act = 3) := by omega
    rcases hd with rfl | rfl | ⟨g1, g2⟩
    · go_enter Try.func12, Try.ntmps12
      go_wp2
      go_ret
      exact ⟨rfl, rfl⟩
    · go_enter Try.func12, Try.ntmps12
      go_wp2
      go_ret
      exact ⟨rfl, rfl⟩
    · rw [show MM.allows 2 act = (act != 1 && act != 3) from rfl]
      go_enter Try.func12, Try.ntmps12
      go_wp2
      go_ret
      exact ⟨rfl, rfl⟩
  · have e : MM.allows 3 act = (decide (4 ≤ act) && decide (act ≤ 8)) := rfl
    rw [e]; clear e
    generalize (decide (4 ≤ act) && decide (act ≤ 8)) = b at *
    go_enter Try.func12, Try.ntmps12
    go_wp2_with fail
    refine (C.out _).mono ?_
    rintro e w1 ⟨rfl, rfl⟩
    go_wp2_with fail
    go_ret
    exact ⟨rfl, rfl⟩
  · have e : MM.allows s act = false := by unfold MM.allows; simp [h1, h2, h3]
    rw [e]; clear e
    go_enter Try.func12, Try.ntmps12
    go_wp2
    go_ret
    exact ⟨rfl, rfl⟩

theorem leads_any (f t : Int) (w : World) :
    Calls Try.prog 20 #[.int .i64 f, .int .i64 t] w fun e w' => e = .returned (.bool (MM.leads f t)) ∧ w = w' := by
  have hc : f = 1 ∨ f = 2 ∨ (¬ f = 1 ∧ ¬ f = 2) := by omega
  rcases hc with rfl | rfl | ⟨h1, h2⟩
  · have hd : t = 2 ∨ t = 3 ∨ t = 4 ∨ (¬ t = 2 ∧ ¬ t = 3 ∧ ¬ t = 4) := by omega
    rcases hd with rfl | rfl | rfl | ⟨g0, g1, g2⟩
    · go_enter Try.func20, Try.ntmps20
      go_wp2
      go_ret
      exact ⟨rfl, rfl⟩
    · go_enter Try.func20, Try.ntmps20
      go_wp2
      go_ret
      exact ⟨rfl, rfl⟩
    · go_enter Try.func20, Try.ntmps20
      go_wp2
      go_ret
      exact ⟨rfl, rfl⟩
    · rw [show MM.leads 1 t = (t == 2 || t == 3 || t == 4) from rfl]
      go_enter Try.func20, Try.ntmps20
      go_wp2
      go_ret
      exact ⟨rfl, rfl⟩
  · have hd : t = 1 ∨ t = 3 ∨ (¬ t = 1 ∧ ¬ t = 3) := by omega
    rcases hd with rfl | rfl | ⟨g0, g1⟩
    · go_enter Try.func20, Try.ntmps20
      go_wp2
      go_ret
      exact ⟨rfl, rfl⟩
    · go_enter Try.func20, Try.ntmps20
      go_wp2
      go_ret
      exact ⟨rfl, rfl⟩
    · rw [show MM.leads 2 t = (t == 1 || t == 3) from rfl]
      go_enter Try.func20, Try.ntmps20
      go_wp2
      go_ret
      exact ⟨rfl, rfl⟩
  · have e : MM.leads f t = false := by unfold MM.leads; simp [h1, h2]
    rw [e]; clear e
    go_enter Try.func20, Try.ntmps20
    go_wp2
    go_ret
    exact ⟨rfl, rfl⟩

/-! the closures -/
theorem mname_any (m : MM.Mem) (A : Option Addr) (cap g : Nat) (n : ByteArray) (w : World) (hb : CB w g 9 #[.string n]) :
    Calls Try.prog 21 #[memA m A cap, .pointer (some ⟨g, 0, none⟩)] w fun e w' => e = .returned (.bool (MM.eq m.name n)) ∧ Below w.heap.size w w' := by
  have HB0 := Lib.hid ((Below.refl w.heap.size w).alloc (Nat.le_refl _) (.cells (memC m A cap) 29))
  have c0 : (w.alloc (.cells (memC m A cap) 29)).cell? ⟨g, 0, none⟩ = some (.string n) := (hb.alloc _).cell 0
  have E : MM.eq m.name n = (m.name.toList == n.toList) := rfl
  rw [E]
  clear E hb
  go_enter Try.func21, Try.ntmps21
  go_wp2_with fail
  go_ret
  exact ⟨rfl, HB0.out⟩
theorem madd_any (m : MM.Mem) (A : Option Addr) (cap g : Nat) (n : ByteArray) (w : World) (hb : CB w g 9 #[.string n]) :
    Calls Try.prog 16 #[memA m A cap, .pointer (some ⟨g, 0, none⟩)] w fun e w' => e = .returned (.bool (MM.lt n m.name)) ∧ Below w.heap.size w w' := by
  have HB0 := Lib.hid ((Below.refl w.heap.size w).alloc (Nat.le_refl _) (.cells (memC m A cap) 29))
  have c0 : (w.alloc (.cells (memC m A cap) 29)).cell? ⟨g, 0, none⟩ = some (.string n) := (hb.alloc _).cell 0
  rw [← MM.gt_eq]
  clear hb
  go_enter Try.func16, Try.ntmps16
  go_wp2_with fail
  go_ret
  exact ⟨rfl, HB0.out⟩
theorem aname_any (a : MM.Ac) (g : Nat) (n : ByteArray) (w : World) (hb : CB w g 9 #[.string n]) :
    Calls Try.prog 23 #[accA a, .pointer (some ⟨g, 0, none⟩)] w fun e w' => e = .returned (.bool (MM.eq a.name n)) ∧ Below w.heap.size w w' := by
  have HB0 := Lib.hid ((Below.refl w.heap.size w).alloc (Nat.le_refl _) (.cells (accC a) 26))
  have c0 : (w.alloc (.cells (accC a) 26)).cell? ⟨g, 0, none⟩ = some (.string n) := (hb.alloc _).cell 0
  have E : MM.eq a.name n = (a.name.toList == n.toList) := rfl
  rw [E]
  clear E hb
  go_enter Try.func23, Try.ntmps23
  go_wp2_with fail
  go_ret
  exact ⟨rfl, HB0.out⟩
theorem aopen_any (a b : MM.Ac) (g : Nat) (w : World) (hb : CB w g 26 (accC a)) :
    Calls Try.prog 31 #[accA b, .pointer (some ⟨g, 0, none⟩)] w fun e w' => e = .returned (.bool (MM.lt a.name b.name)) ∧ Below w.heap.size w w' := by
  have HB0 := Lib.hid ((Below.refl w.heap.size w).alloc (Nat.le_refl _) (.cells (accC b) 26))
  have c0 : (w.alloc (.cells (accC b) 26)).cell? ⟨g, 0, none⟩ = some (.string a.name) := (hb.alloc _).cell 0
  have c1 : (w.alloc (.cells (accC b) 26)).cell? ⟨g, 1, none⟩ = some (.int .i64 a.kind) := (hb.alloc _).cell 1
  rw [← MM.gt_eq]
  clear hb
  go_enter Try.func31, Try.ntmps31
  go_wp2_with fail
  go_ret
  exact ⟨rfl, HB0.out⟩
end Go.Proofs.Ytlnllbcpbohahab
