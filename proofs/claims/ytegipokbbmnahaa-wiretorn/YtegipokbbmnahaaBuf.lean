/- Rows of bytes that the call itself makes; strings out of bytes. -/
import Derived.Test.YtegipokbbmnahaaTxt
import Derived.Lib.AppendStr
import Derived.Maps.AppendAt
import Derived.OwnWalk
namespace Go.Proofs.Ytegipokbbmnahaa
open Go.RowKit

theorem info_u8 : (Try.prog.info? 5).map (fun i => (i.zero, i.size, i.bytes)) = some (some (.int .u8 0), 1, 1) := by kernel_rfl
theorem info_str : (Try.prog.info? 9).map (fun i => (i.zero, i.size, i.bytes)) = some (some (.string ⟨#[]⟩), 1, 16) := by kernel_rfl

/-- the slice v, in memory from block B on, holds the bytes l -/
def OB (w : World) (B : Nat) (v : Value) (l : List UInt8) : Prop := OwnV w B 5 v (l.map byteV)
theorem OB.nil (w : World) (B : Nat) : OB w B (.slice none 0 0) [] := OwnV.nil w B _
theorem OB.below {w w' : World} {B : Nat} {v : Value} {l : List UInt8} (h : OB w B v l) (hb : Below w.heap.size w w') : OB w' B v l := OwnV.below h hb
theorem OB.drewN {w : World} {B : Nat} {v : Value} {l : List UInt8} (h : OB w B v l) (n : Nat) : OB (w.drewN n) B v l := h
theorem OB.alloc {w : World} {B : Nat} {v : Value} {l : List UInt8} (h : OB w B v l) (o : Obj) : OB (w.alloc o) B v l := OwnV.alloc h o
theorem OB.bytes {w : World} {B : Nat} {v : Value} {l : List UInt8} (h : OB w B v l) : ∃ A cap, v = .slice A l.length cap ∧ Bytes w A l := by
  obtain ⟨A, cap, e, hv⟩ := OwnV.vals h
  rw [List.length_map] at e
  exact ⟨A, cap, e, hv⟩
theorem OB.len {w : World} {B : Nat} {v : Value} {l : List UInt8} (h : OB w B v l) : l.length ≤ 9223372036854775807 := by have := OwnV.len h; rw [List.length_map] at this; exact this

theorem byteV_one (l : List UInt8) : ∀ u ∈ l.map byteV, u.oneCell' = true := by
  intro u hu
  obtain ⟨c, _, rfl⟩ := List.mem_map.1 hu
  rfl

/-- 'b = append(b, s...)', s a string -/
theorem wpList_catS {ops : Array Oper} {rest : List Oper} {o : Oper} {a : Act} {Q : Exit → Act → World → Prop} (w : World) (B : Nat) (l : List UInt8) (s : ByteArray) (x y : Operand)
    (hgd : o.guard = none) (ho : o.op = .call { callee := .builtin .append, args := #[x, y], argTypes := #[40, 9] })
    (v : Value) (hs : a.eval x = v) (hx : a.eval y = .string s) (hown : OB w B v l) (hl : l.length + s.size ≤ 140737488355328) (hB : B ≤ w.heap.size)
    (h : ∀ v' w', OB w' B v' (l ++ L s) → Below B w w' → w.grownBy w' v.ownBlock → wpList Try.prog ops Q rest (a.put o.dst v') w') :
    wpList Try.prog ops Q (o :: rest) a w := by
  obtain ⟨i0, hi, hz0, hz1, hz2⟩ := info_parts info_u8
  have hc : Lib.strCells s = (L s).map byteV := rfl
  refine Lib.wpList_append_own_string w hgd x y 40 9 ho B 5 i0 Try.underlying40 Try.underlying9 hi hz0 hz1 hz2 v (l.map byteV).length (l.map byteV) hs hown s hx ?_ ?_ hB ?_
  · rw [List.length_map]; unfold maxLen; omega
  · rw [List.length_map]; exact hl
  · intro v' w' h1 h2 _
    refine h v' w' ?_ ((Below.refl B w).grown h2 hB (OwnV.block hown)) h2
    unfold OB OwnV
    rw [hc] at h1
    have el : (List.map byteV (L s)).length = s.size := by rw [List.length_map, L_len]
    rw [List.map_append, List.length_append, el]
    exact h1

theorem run_catB (w : World) (B : Nat) (l m : List UInt8) (ty : TypeId) (v : Value) (hown : OB w B v l) (A : Option Addr) (c : Nat) (hm : Bytes w A m) (hl : l.length + m.length ≤ 140737488355328) (hB : B ≤ w.heap.size) :
    ∃ v' w', (Builtin.append_ #[40, 40] ty #[v, .slice A m.length c]).run Try.prog w = .ok v' w' ∧ OB w' B v' (l ++ m) ∧ w.grownBy w' v.ownBlock := by
  obtain ⟨i0, hi, hz0, hz1, hz2⟩ := info_parts info_u8
  have key : ∀ ad, A = some ad → ∃ v' w', (Builtin.append_ #[40, 40] ty #[v, .slice A m.length c]).run Try.prog w = .ok v' w' ∧ OB w' B v' (l ++ m) ∧ w.grownBy w' v.ownBlock := by
    rintro ad rfl
    have hcells : ∀ j u, (m.map byteV)[j]? = some u → w.cell? (ad.add j) = some u := by
      intro j u hu
      rcases hm.2 with h0 | ⟨b, off, e, hb, hcell⟩
      · have : m = [] := by simpa using h0
        subst this
        simp at hu
      · injection e with e
        subst e
        have hj : j < (m.map byteV).length := by
          rcases Nat.lt_or_ge j (m.map byteV).length with h | h
          · exact h
          · rw [List.getElem?_eq_none h] at hu; cases hu
        have e : (⟨b, off, none⟩ : Addr).add j = ⟨b, off + j, none⟩ := by
          unfold Addr.add
          by_cases h0 : j = 0
          · subst h0; simp
          · simp [h0]
        rw [e, hcell j hj, hu]
    obtain ⟨v', w', hr, h2, h3, _, _⟩ := run_append_own_at (P := Try.prog) w B 40 ty 5 i0 (.int .u8 0) 1 1 Try.underlying40 hi hz0 hz1 hz2 rfl (by decide) v (l.map byteV).length (l.map byteV) hown ad m.length c (m.map byteV)
      (by simp) hcells (byteV_one m) (by rw [List.length_map]; unfold maxLen; omega) (by rw [List.length_map]; omega) hB
    refine ⟨v', w', hr, ?_, h3⟩
    unfold OB OwnV
    have el : (List.map byteV m).length = m.length := List.length_map _
    rw [List.map_append, List.length_append, el]
    exact h2
  cases A with
  | some ad => exact key ad rfl
  | none =>
    have : m = [] := by
      rcases hm.2 with h0 | ⟨b, off, e, _⟩
      · simpa using h0
      · cases e
    subst this
    refine ⟨v, w, ?_, by simpa using hown, World.grownBy.refl w _⟩
    rcases hown.2 with ⟨rfl, h0⟩ | ⟨g, cap, cur, rfl, _, _, hnc, _⟩
    · simp [Builtin.append_, run_underlying Try.underlying40, sizeOf, typeInfo, hi, Builtin.lenOf, Builtin.firstCells]
    · simp [Builtin.append_, run_underlying Try.underlying40, sizeOf, typeInfo, hi, Builtin.lenOf, Builtin.firstCells, storeCells]
      simp at hnc
      omega

/-- 'b = append(b, c...)', c a slice of bytes -/
theorem wpList_catB {ops : Array Oper} {rest : List Oper} {o : Oper} {a : Act} {Q : Exit → Act → World → Prop} (w : World) (B : Nat) (l m : List UInt8) (x y : Operand)
    (hgd : o.guard = none) (ho : o.op = .call { callee := .builtin .append, args := #[x, y], argTypes := #[40, 40] })
    (v : Value) (A : Option Addr) (n c : Nat) (hs : a.eval x = v) (hx : a.eval y = .slice A n c) (hn : n = m.length) (hown : OB w B v l) (hm : Bytes w A m) (hl : l.length + m.length ≤ 140737488355328) (hB : B ≤ w.heap.size)
    (h : ∀ v' w', OB w' B v' (l ++ m) → Below B w w' → w.grownBy w' v.ownBlock → wpList Try.prog ops Q rest (a.put o.dst v') w') :
    wpList Try.prog ops Q (o :: rest) a w := by
  subst hn
  obtain ⟨v', w', hr, h2, h3⟩ := run_catB w B l m o.type v hown A c hm hl hB
  refine wpList_plain hgd fun K hK => ?_
  unfold Oper.wp execOp
  simp only [ho, resolve, invoke, builtin, Sem.run_bind, Sem.run_pure, Result.andThen_ok, List.map_toArray, List.map_cons, List.map_nil, hs, hx, hr]
  exact hK _ _ (h v' w' h2 ((Below.refl B w).grown h3 hB (OwnV.block hown)) h3)

/-- 'b = append(b, c)', one byte in a block just made -/
theorem wpList_pushB {ops : Array Oper} {rest : List Oper} {o : Oper} {a : Act} {Q : Exit → Act → World → Prop} (w : World) (c : UInt8) (n : Int) (hn : n = (c.toNat : Int)) (B : Nat) (l : List UInt8) (x y : Operand)
    (hgd : o.guard = none) (ho : o.op = .call { callee := .builtin .append, args := #[x, y], argTypes := #[40, 40] })
    (v : Value) (hs : a.eval x = v) (hx : a.eval y = .slice (some ⟨w.heap.size, 0, none⟩) 1 1) (hown : OB w B v l) (hl : l.length + 1 ≤ 140737488355328) (hB : B ≤ w.heap.size)
    (h : ∀ v' w', OB w' B v' (l ++ [c]) → Below B w w' → w.grownBy w' v.ownBlock → wpList Try.prog ops Q rest (a.put o.dst v') w') :
    wpList Try.prog ops Q (o :: rest) a (w.alloc (.cells #[.int .u8 n] 5)) := by
  subst hn
  refine wpList_pushV w (byteV c) rfl B (l.map byteV) x y 40 5 1 (.int .u8 0) Try.underlying40 info_u8 rfl hgd ho v hs hx hown ?_ ?_ hB ?_
  · rw [List.length_map]; omega
  · rw [List.length_map]; unfold maxLen; omega
  · intro v' w' h1 h2 _ h4
    exact h v' w' (by unfold OB; rw [List.map_append]; exact h1) h2 h4

/-- 's = append(s, t)', one string in a block just made -/
def OS (w : World) (B : Nat) (v : Value) (l : List ByteArray) : Prop := OwnV w B 9 v (l.map Value.string)
theorem OS.nil (w : World) (B : Nat) : OS w B (.slice none 0 0) [] := OwnV.nil w B _
theorem OS.below {w w' : World} {B : Nat} {v : Value} {l : List ByteArray} (h : OS w B v l) (hb : Below w.heap.size w w') : OS w' B v l := OwnV.below h hb
theorem OS.drewN {w : World} {B : Nat} {v : Value} {l : List ByteArray} (h : OS w B v l) (n : Nat) : OS (w.drewN n) B v l := h
theorem OS.strs {w : World} {B : Nat} {v : Value} {l : List ByteArray} (h : OS w B v l) (hs : ∀ s ∈ l, s.size ≤ maxLen) : ∃ A cap, v = .slice A l.length cap ∧ Strs w A l := by
  obtain ⟨A, cap, e, hv⟩ := OwnV.vals h
  rw [List.length_map] at e
  exact ⟨A, cap, e, hv, hs⟩
theorem wpList_pushS {ops : Array Oper} {rest : List Oper} {o : Oper} {a : Act} {Q : Exit → Act → World → Prop} (w : World) (s : ByteArray) (B : Nat) (l : List ByteArray) (x y : Operand)
    (hgd : o.guard = none) (ho : o.op = .call { callee := .builtin .append, args := #[x, y], argTypes := #[31, 31] })
    (v : Value) (hs : a.eval x = v) (hx : a.eval y = .slice (some ⟨w.heap.size, 0, none⟩) 1 1) (hown : OS w B v l) (hl : l.length + 1 ≤ 8796093022208) (hB : B ≤ w.heap.size)
    (h : ∀ v' w', OS w' B v' (l ++ [s]) → Below B w w' → w.grownBy w' v.ownBlock → wpList Try.prog ops Q rest (a.put o.dst v') w') :
    wpList Try.prog ops Q (o :: rest) a (w.alloc (.cells #[.string s] 9)) := by
  refine wpList_pushV w (.string s) rfl B (l.map Value.string) x y 31 9 16 (.string ⟨#[]⟩) Try.underlying31 info_str rfl hgd ho v hs hx hown ?_ ?_ hB ?_
  · rw [List.length_map]; omega
  · rw [List.length_map]; unfold maxLen; omega
  · intro v' w' h1 h2 _ h4
    exact h v' w' (by unfold OS; rw [List.map_append]; exact h1) h2 h4

/-- 'string(b)' -/
theorem str_of {w : World} {A : Option Addr} {l : List UInt8} (h : Bytes w A l) (cap : Nat) : (convert 40 9 (.slice A l.length cap)).run Try.prog w = .ok (.string (S l)) w := by
  cases A with
  | none =>
    have : l = [] := by
      rcases h.2 with h0 | ⟨b, off, e, _⟩
      · simpa using h0
      · cases e
    subst this
    rw [run_convert_bytes_string w 40 9 5 none _ cap Try.underlying40 Try.underlying5 Try.underlying9]
    rfl
  | some ad =>
    refine run_convert_bytes_back w 40 9 5 ad cap l Try.underlying40 Try.underlying5 Try.underlying9 ?_
    intro j hj
    rcases h.2 with h0 | ⟨b, off, e, hb, hcell⟩
    · have : l = [] := by simpa using h0
      subst this
      simp at hj
    · injection e with e
      subst e
      have e : (⟨b, off, none⟩ : Addr).add j = ⟨b, off + j, none⟩ := by
        unfold Addr.add
        by_cases h0 : j = 0
        · subst h0; simp
        · simp [h0]
      rw [e, hcell j (by simpa using hj)]
      simp [List.getElem?_eq_getElem hj, byteV]
end Go.Proofs.Ytegipokbbmnahaa
