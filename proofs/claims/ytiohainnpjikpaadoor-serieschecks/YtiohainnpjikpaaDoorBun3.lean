/- Put together: WordsE, StrOf, Buf, CatMath, WordsF, WordsD, WordsG, DecMath. -/
import Derived.Test.YtiohainnpjikpaaDoorBun2
import Derived.Lib.AppendStr
import Derived.Maps.AppendAt
import Derived.OwnWalk
import Derived.Deep.Cut
import Derived.Deep.CutRange
/- Contracts: names. -/
namespace Go.Proofs.YtiohainnpjikpaaDoor
open Go.RowKit
set_option linter.unusedVariables false

def lord (c : UInt8) : Bool := WM.letter c || WM.dig c
theorem name_eq (l : List UInt8) : WM.name l = (l.all lord && WM.letter (l.headD 0) && decide (l.length ≤ 12)) := rfl

set_option maxHeartbeats 1000000 in
theorem name_any (s : ByteArray) (w : World) (hs : s.size ≤ 9223372036854775807) :
    Calls Tryd.prog 30 #[.string s] w fun e w' => e = .returned (.bool (WM.name (L s))) ∧ w = w' := by
  have HQ := name_eq (L s)
  generalize hv : WM.name (L s) = v at *
  clear hv
  rw [L_len] at HQ
  by_cases h0 : s.size = 0
  · rw [L_nil h0] at HQ
    have HN : Hid (v = false) := Lib.hid (by rw [HQ]; rfl)
    clear HQ
    have c0 : ((s.size : Int) == 0) = true := beq_t (by omega)
    go_enter Tryd.func30, Tryd.ntmps30
    go_wp2
    go_ret
    exact ⟨by rw [HN.out]; rfl, rfl⟩
  · have hp : 0 < s.size := by omega
    rw [L_head s hp] at HQ
    have c0 : ((s.size : Int) == 0) = false := beq_f (by omega)
    clear h0
    by_cases h1 : 12 < s.size
    · have HN : Hid (v = false) := Lib.hid (by
        rw [HQ, show decide (s.size ≤ 12) = false by simp; omega]; simp)
      clear HQ
      go_enter Tryd.func30, Tryd.ntmps30
      go_wp2
      go_ret
      exact ⟨by rw [HN.out]; rfl, rfl⟩
    · have e1 : decide (s.size ≤ 12) = true := by simp; omega
      rw [e1] at HQ
      clear e1
      cases hl : WM.letter s[0]
      · have HN : Hid (v = false) := Lib.hid (by rw [HQ, hl]; simp)
        clear HQ
        go_enter Tryd.func30, Tryd.ntmps30
        go_wp2_with (go_at_call 56; refine (isLetter_any _ _).mono ?_; rintro e w' ⟨rfl, rfl⟩)
        go_ret
        exact ⟨by rw [HN.out]; rfl, rfl⟩
      · have HN : Hid (v = (L s).all lord) := Lib.hid (by rw [HQ, hl]; simp)
        clear HQ
        go_enter Tryd.func30, Tryd.ntmps30
        go_wp2_with (go_at_call 56; refine (isLetter_any _ _).mono ?_; rintro e w' ⟨rfl, rfl⟩)
        go_loop [20] (fun i => ∃ k : Nat, k ≤ s.size ∧ i = .int .i64 k ∧ Hid (((L s).take k).all lord = true)) (fun i => s.size - (intOf i).toNat)
        case atStart => exact ⟨0, by omega, rfl, Lib.hid rfl⟩
        case round =>
          clear hl
          obtain ⟨k, hk, rfl, HA⟩ := hrel
          by_cases hlt : k < s.size
          · cases hl : WM.letter s[k]
            · cases hd : WM.dig s[k]
              · have HF := Lib.hid (all_not (p := lord) hlt (by unfold lord; rw [hl, hd]; rfl))
                go_wp2_with (first
                  | (go_at_call 56; refine (isLetter_any _ _).mono ?_; rintro e w' ⟨rfl, rfl⟩)
                  | (go_at_call 57; refine (isDigit_any _ _).mono ?_; rintro e w' ⟨rfl, rfl⟩))
                go_ret
                exact ⟨by rw [HN.out, HF.out]; rfl, rfl⟩
              · have HF := Lib.hid (all_step (p := lord) hlt HA.out (by unfold lord; rw [hl, hd]; rfl))
                go_wp2_with (first
                  | (go_at_call 56; refine (isLetter_any _ _).mono ?_; rintro e w' ⟨rfl, rfl⟩)
                  | (go_at_call 57; refine (isDigit_any _ _).mono ?_; rintro e w' ⟨rfl, rfl⟩))
                go_round
                case rel => exact ⟨k + 1, by omega, by go_num, HF⟩
                case measure => simp [intOf]; omega
            · have HF := Lib.hid (all_step (p := lord) hlt HA.out (by unfold lord; rw [hl]; rfl))
              go_wp2_with (first
                | (go_at_call 56; refine (isLetter_any _ _).mono ?_; rintro e w' ⟨rfl, rfl⟩)
                | (go_at_call 57; refine (isDigit_any _ _).mono ?_; rintro e w' ⟨rfl, rfl⟩))
              go_round
              case rel => exact ⟨k + 1, by omega, by go_num, HF⟩
              case measure => simp [intOf]; omega
          · obtain rfl : k = s.size := by omega
            have HE := HA.out
            rw [L_take_all] at HE
            have HE := Lib.hid HE
            go_wp2
            go_ret
            exact ⟨by rw [HN.out, HE.out]; rfl, rfl⟩

set_option maxHeartbeats 1000000 in
theorem rname_any (s : ByteArray) (w : World) (hs : s.size ≤ 9223372036854775807) :
    Calls Tryd.prog 15 #[.string s] w fun e w' => e = .returned (.bool (WM.name (L s))) ∧ w = w' := by
  have HQ := name_eq (L s)
  generalize hv : WM.name (L s) = v at *
  clear hv
  rw [L_len] at HQ
  have HQ' := Lib.hid HQ
  clear HQ
  have HQ := HQ'
  clear HQ'
  go_enter Tryd.func15, Tryd.ntmps15
  go_wp2
  go_loop [3] (fun i => ∃ k : Nat, k ≤ s.size ∧ i = .int .i64 k ∧ Hid (((L s).take k).all lord = true) ∧ Hid (∀ h : 0 < s.size, 0 < k → WM.letter s[0] = true)) (fun i => s.size - (intOf i).toNat)
  case atStart => exact ⟨0, by omega, rfl, Lib.hid rfl, Lib.hid (fun _ h => by omega)⟩
  case round =>
    obtain ⟨k, hk, rfl, HA, HB⟩ := hrel
    by_cases hlt : k < s.size
    · have hp : 0 < s.size := by omega
      have H0 := Lib.hid (L_head s hp)
      cases hl : WM.letter s[k]
      · by_cases hk0 : k = 0
        · subst hk0
          have HN : Hid (v = false) := Lib.hid (by rw [HQ.out, H0.out, hl]; simp)
          rcases WM.letter_false.1 hl with h | h
          · clear hl
            go_wp2
            go_ret
            exact ⟨by rw [HN.out]; rfl, rfl⟩
          · clear hl
            have h2 : 97 ≤ (s[0].toNat : Int) := by omega
            have h3 : decide ((s[0].toNat : Int) ≤ 122) = false := decide_eq_false (by omega)
            go_wp2
            go_ret
            exact ⟨by rw [HN.out]; rfl, rfl⟩
        · have ck : ((k : Int) == 0) = false := by simp; omega
          have HL := Lib.hid (HB.out hp (by omega))
          cases hd : WM.dig s[k]
          · have HF := all_not (p := lord) hlt (by unfold lord; rw [hl, hd]; rfl)
            have HN : Hid (v = false) := Lib.hid (by rw [HQ.out, HF]; simp)
            clear HF
            rcases WM.letter_false.1 hl with h | h
            · rcases WM.dig_false.1 hd with h' | h'
              · clear hl hd
                go_wp2
                go_ret
                exact ⟨by rw [HN.out]; rfl, rfl⟩
              · clear hl hd
                have h4 : decide ((s[k].toNat : Int) < 48) = false := decide_eq_false (by omega)
                go_wp2
                go_ret
                exact ⟨by rw [HN.out]; rfl, rfl⟩
            · have h' : 57 < (s[k].toNat : Int) := by omega
              have h2 : 97 ≤ (s[k].toNat : Int) := by omega
              have h3 : decide ((s[k].toNat : Int) ≤ 122) = false := decide_eq_false (by omega)
              have h4 : decide ((s[k].toNat : Int) < 48) = false := decide_eq_false (by omega)
              clear hl hd
              go_wp2
              go_ret
              exact ⟨by rw [HN.out]; rfl, rfl⟩
          · have HF := Lib.hid (all_step (p := lord) hlt HA.out (by unfold lord; rw [hl, hd]; rfl))
            obtain ⟨d1, d2⟩ := WM.dig_true.1 hd
            have d3 : (s[k].toNat : Int) < 97 := by omega
            clear hl hd
            go_wp2
            go_round
            case rel => exact ⟨k + 1, by omega, by go_num, HF, Lib.hid (fun _ _ => HL.out)⟩
            case measure => simp [intOf]; omega
      · have HF := Lib.hid (all_step (p := lord) hlt HA.out (by unfold lord; rw [hl]; rfl))
        obtain ⟨d1, d2⟩ := WM.letter_true.1 hl
        have HL : Hid (WM.letter s[0] = true) := Lib.hid (by
          by_cases hk0 : k = 0
          · subst hk0; exact hl
          · exact HB.out hp (by omega))
        clear hl
        go_wp2
        go_round
        case rel => exact ⟨k + 1, by omega, by go_num, HF, Lib.hid (fun _ _ => HL.out)⟩
        case measure => simp [intOf]; omega
    · obtain rfl : k = s.size := by omega
      have HE := HA.out
      rw [L_take_all] at HE
      have HE := Lib.hid HE
      by_cases h0 : s.size = 0
      · have HN : Hid (v = false) := Lib.hid (by rw [HQ.out, L_nil h0]; rfl)
        have c0 : decide (0 < s.size) = false := decide_eq_false (by omega)
        go_wp2
        go_ret
        exact ⟨by rw [HN.out]; rfl, rfl⟩
      · have hp : 0 < s.size := by omega
        have HN : Hid (v = decide (s.size ≤ 12)) := Lib.hid (by rw [HQ.out, HE.out, L_head s hp, HB.out hp hp]; simp)
        by_cases h1 : s.size ≤ 12
        · have HM : Hid (v = true) := Lib.hid (by rw [HN.out]; simpa using h1)
          go_wp2
          go_ret
          exact ⟨by rw [HM.out]; first | rfl | (simp_all; omega), rfl⟩
        · have HM : Hid (v = false) := Lib.hid (by rw [HN.out]; simpa using h1)
          have c1 : decide (s.size ≤ 12) = false := by simpa using h1
          go_wp2
          go_ret
          exact ⟨by rw [HM.out]; first | rfl | (simp_all; omega), rfl⟩
end Go.Proofs.YtiohainnpjikpaaDoor

/- Strings out of bytes. -/
namespace Go.Proofs.YtiohainnpjikpaaDoor
open Go.RowKit

theorem lit_bytes (w : World) (cs : List UInt8) (fr : Nat × Nat) (hl : cs.length ≤ maxLen) : Bytes (w.alloc (.cells (cs.map byteV).toArray 5 fr)) (some ⟨w.heap.size, 0, none⟩) cs := by
  refine ⟨by rw [List.length_map]; exact hl, .inr ⟨w.heap.size, 0, rfl, by simp, fun i hi => ?_⟩⟩
  rw [Nat.zero_add, World.cell?_alloc_mark]
  simp

/-- 'string(b)' -/
theorem str_of {w : World} {A : Option Addr} {l : List UInt8} (h : Bytes w A l) (cap : Nat) : (convert 94 9 (.slice A l.length cap)).run Tryd.prog w = .ok (.string (S l)) w := by
  cases A with
  | none =>
    have : l = [] := by
      rcases h.2 with h0 | ⟨b, off, e, _⟩
      · simpa using h0
      · cases e
    subst this
    rw [run_convert_bytes_string w 94 9 5 none _ cap Tryd.underlying94 Tryd.underlying5 Tryd.underlying9]
    rfl
  | some ad =>
    refine run_convert_bytes_back w 94 9 5 ad cap l Tryd.underlying94 Tryd.underlying5 Tryd.underlying9 ?_
    intro j hj
    rcases h.2 with h0 | ⟨b, off, e, hb, hcell⟩
    · have : l = [] := by simpa using h0
      subst this
      simp at hj
    · injection e with e
      subst e
      have e : (⟨b, off, none⟩ : Addr).add j = ⟨b, off + j, none⟩ := by
        unfold Addr.add
        by_cases h0 : j = 0
        · subst h0; simp
        · simp [h0]
      rw [e, hcell j (by simpa using hj)]
      simp [List.getElem?_eq_getElem hj, byteV]
end Go.Proofs.YtiohainnpjikpaaDoor

/- Rows of bytes that the call itself makes; strings out of bytes. -/
namespace Go.Proofs.YtiohainnpjikpaaDoor
open Go.RowKit
set_option maxRecDepth 100000

theorem info_u8 : (Tryd.prog.info? 5).map (fun i => (i.zero, i.size, i.bytes)) = some (some (.int .u8 0), 1, 1) := by kernel_rfl
theorem info_str : (Tryd.prog.info? 9).map (fun i => (i.zero, i.size, i.bytes)) = some (some (.string ⟨#[]⟩), 1, 16) := by kernel_rfl

/-- the slice v, in memory from block B on, holds the bytes l -/
def OB (w : World) (B : Nat) (v : Value) (l : List UInt8) : Prop := OwnV w B 5 v (l.map byteV)
theorem OB.nil (w : World) (B : Nat) : OB w B (.slice none 0 0) [] := OwnV.nil w B _
theorem OB.below {w w' : World} {B : Nat} {v : Value} {l : List UInt8} (h : OB w B v l) (hb : Below w.heap.size w w') : OB w' B v l := OwnV.below h hb
theorem OB.drewN {w : World} {B : Nat} {v : Value} {l : List UInt8} (h : OB w B v l) (n : Nat) : OB (w.drewN n) B v l := h
theorem OB.alloc {w : World} {B : Nat} {v : Value} {l : List UInt8} (h : OB w B v l) (o : Obj) : OB (w.alloc o) B v l := OwnV.alloc h o
theorem OB.bytes {w : World} {B : Nat} {v : Value} {l : List UInt8} (h : OB w B v l) : ∃ A cap, v = .slice A l.length cap ∧ Bytes w A l := by
  obtain ⟨A, cap, e, hv⟩ := OwnV.vals h
  rw [List.length_map] at e
  exact ⟨A, cap, e, hv⟩
theorem OB.len {w : World} {B : Nat} {v : Value} {l : List UInt8} (h : OB w B v l) : l.length ≤ 9223372036854775807 := by have := OwnV.len h; rw [List.length_map] at this; exact this

theorem byteV_one (l : List UInt8) : ∀ u ∈ l.map byteV, u.oneCell' = true := by
  intro u hu
  obtain ⟨c, _, rfl⟩ := List.mem_map.1 hu
  rfl

/-- 'b = append(b, s...)', s a string -/
theorem wpList_catS {ops : Array Oper} {rest : List Oper} {o : Oper} {a : Act} {Q : Exit → Act → World → Prop} (w : World) (B : Nat) (l : List UInt8) (s : ByteArray) (x y : Operand)
    (hgd : o.guard = none) (ho : o.op = .call { callee := .builtin .append, args := #[x, y], argTypes := #[94, 9] })
    (v : Value) (hs : a.eval x = v) (hx : a.eval y = .string s) (hown : OB w B v l) (hl : l.length + s.size ≤ 140737488355328) (hB : B ≤ w.heap.size)
    (h : ∀ v' w', OB w' B v' (l ++ L s) → Below B w w' → w.grownBy w' v.ownBlock → wpList Tryd.prog ops Q rest (a.put o.dst v') w') :
    wpList Tryd.prog ops Q (o :: rest) a w := by
  obtain ⟨i0, hi, hz0, hz1, hz2⟩ := info_parts info_u8
  have hc : Lib.strCells s = (L s).map byteV := rfl
  refine Lib.wpList_append_own_string w hgd x y 94 9 ho B 5 i0 Tryd.underlying94 Tryd.underlying9 hi hz0 hz1 hz2 v (l.map byteV).length (l.map byteV) hs hown s hx ?_ ?_ hB ?_
  · rw [List.length_map]; unfold maxLen; omega
  · rw [List.length_map]; exact hl
  · intro v' w' h1 h2 _
    refine h v' w' ?_ ((Below.refl B w).grown h2 hB (OwnV.block hown)) h2
    unfold OB OwnV
    rw [hc] at h1
    have el : (List.map byteV (L s)).length = s.size := by rw [List.length_map, L_len]
    rw [List.map_append, List.length_append, el]
    exact h1

theorem run_catB (w : World) (B : Nat) (l m : List UInt8) (ty : TypeId) (v : Value) (hown : OB w B v l) (A : Option Addr) (c : Nat) (hm : Bytes w A m) (hl : l.length + m.length ≤ 140737488355328) (hB : B ≤ w.heap.size) :
    ∃ v' w', (Builtin.append_ #[94, 94] ty #[v, .slice A m.length c]).run Tryd.prog w = .ok v' w' ∧ OB w' B v' (l ++ m) ∧ w.grownBy w' v.ownBlock := by
  obtain ⟨i0, hi, hz0, hz1, hz2⟩ := info_parts info_u8
  have key : ∀ ad, A = some ad → ∃ v' w', (Builtin.append_ #[94, 94] ty #[v, .slice A m.length c]).run Tryd.prog w = .ok v' w' ∧ OB w' B v' (l ++ m) ∧ w.grownBy w' v.ownBlock := by
    rintro ad rfl
    have hcells : ∀ j u, (m.map byteV)[j]? = some u → w.cell? (ad.add j) = some u := by
      intro j u hu
      rcases hm.2 with h0 | ⟨b, off, e, hb, hcell⟩
      · have : m = [] := by simpa using h0
        subst this
        simp at hu
      · injection e with e
        subst e
        have hj : j < (m.map byteV).length := by
          rcases Nat.lt_or_ge j (m.map byteV).length with h | h
          · exact h
          · rw [List.getElem?_eq_none h] at hu; cases hu
        have e : (⟨b, off, none⟩ : Addr).add j = ⟨b, off + j, none⟩ := by
          unfold Addr.add
          by_cases h0 : j = 0
          · subst h0; simp
          · simp [h0]
        rw [e, hcell j hj, hu]
    obtain ⟨v', w', hr, h2, h3, _, _⟩ := run_append_own_at (P := Tryd.prog) w B 94 ty 5 i0 (.int .u8 0) 1 1 Tryd.underlying94 hi hz0 hz1 hz2 rfl (by decide) v (l.map byteV).length (l.map byteV) hown ad m.length c (m.map byteV)
      (by simp) hcells (byteV_one m) (by rw [List.length_map]; unfold maxLen; omega) (by rw [List.length_map]; omega) hB
    refine ⟨v', w', hr, ?_, h3⟩
    unfold OB OwnV
    have el : (List.map byteV m).length = m.length := List.length_map _
    rw [List.map_append, List.length_append, el]
    exact h2
  cases A with
  | some ad => exact key ad rfl
  | none =>
    have : m = [] := by
      rcases hm.2 with h0 | ⟨b, off, e, _⟩
      · simpa using h0
      · cases e
    subst this
    refine ⟨v, w, ?_, by simpa using hown, World.grownBy.refl w _⟩
    rcases hown.2 with ⟨rfl, h0⟩ | ⟨g, cap, cur, rfl, _, _, hnc, _⟩
    · simp [Builtin.append_, run_underlying Tryd.underlying94, sizeOf, typeInfo, hi, Builtin.lenOf, Builtin.firstCells]
    · simp [Builtin.append_, run_underlying Tryd.underlying94, sizeOf, typeInfo, hi, Builtin.lenOf, Builtin.firstCells, storeCells]
      simp at hnc
      omega

/-- 'b = append(b, c...)', c a slice of bytes -/
theorem wpList_catB {ops : Array Oper} {rest : List Oper} {o : Oper} {a : Act} {Q : Exit → Act → World → Prop} (w : World) (B : Nat) (l m : List UInt8) (x y : Operand)
    (hgd : o.guard = none) (ho : o.op = .call { callee := .builtin .append, args := #[x, y], argTypes := #[94, 94] })
    (v : Value) (A : Option Addr) (n c : Nat) (hs : a.eval x = v) (hx : a.eval y = .slice A n c) (hn : n = m.length) (hown : OB w B v l) (hm : Bytes w A m) (hl : l.length + m.length ≤ 140737488355328) (hB : B ≤ w.heap.size)
    (h : ∀ v' w', OB w' B v' (l ++ m) → Below B w w' → w.grownBy w' v.ownBlock → wpList Tryd.prog ops Q rest (a.put o.dst v') w') :
    wpList Tryd.prog ops Q (o :: rest) a w := by
  subst hn
  obtain ⟨v', w', hr, h2, h3⟩ := run_catB w B l m o.type v hown A c hm hl hB
  refine wpList_plain hgd fun K hK => ?_
  unfold Oper.wp execOp
  simp only [ho, resolve, invoke, builtin, Sem.run_bind, Sem.run_pure, Result.andThen_ok, List.map_toArray, List.map_cons, List.map_nil, hs, hx, hr]
  exact hK _ _ (h v' w' h2 ((Below.refl B w).grown h3 hB (OwnV.block hown)) h3)

/-- 'b = append(b, c)', one byte in a block just made -/
theorem wpList_pushB {ops : Array Oper} {rest : List Oper} {o : Oper} {a : Act} {Q : Exit → Act → World → Prop} (w : World) (c : UInt8) (n : Int) (hn : n = (c.toNat : Int)) (B : Nat) (l : List UInt8) (x y : Operand)
    (hgd : o.guard = none) (ho : o.op = .call { callee := .builtin .append, args := #[x, y], argTypes := #[94, 94] })
    (v : Value) (hs : a.eval x = v) (hx : a.eval y = .slice (some ⟨w.heap.size, 0, none⟩) 1 1) (hown : OB w B v l) (hl : l.length + 1 ≤ 140737488355328) (hB : B ≤ w.heap.size)
    (h : ∀ v' w', OB w' B v' (l ++ [c]) → Below B w w' → w.grownBy w' v.ownBlock → wpList Tryd.prog ops Q rest (a.put o.dst v') w') :
    wpList Tryd.prog ops Q (o :: rest) a (w.alloc (.cells #[.int .u8 n] 5)) := by
  subst hn
  refine wpList_pushV w (byteV c) rfl B (l.map byteV) x y 94 5 1 (.int .u8 0) Tryd.underlying94 info_u8 rfl hgd ho v hs hx hown ?_ ?_ hB ?_
  · rw [List.length_map]; omega
  · rw [List.length_map]; unfold maxLen; omega
  · intro v' w' h1 h2 _ h4
    exact h v' w' (by unfold OB; rw [List.map_append]; exact h1) h2 h4

/-- 's = append(s, t)', one string in a block just made -/
def OS (w : World) (B : Nat) (v : Value) (l : List ByteArray) : Prop := OwnV w B 9 v (l.map Value.string)
theorem OS.nil (w : World) (B : Nat) : OS w B (.slice none 0 0) [] := OwnV.nil w B _
theorem OS.below {w w' : World} {B : Nat} {v : Value} {l : List ByteArray} (h : OS w B v l) (hb : Below w.heap.size w w') : OS w' B v l := OwnV.below h hb
theorem OS.drewN {w : World} {B : Nat} {v : Value} {l : List ByteArray} (h : OS w B v l) (n : Nat) : OS (w.drewN n) B v l := h
theorem OS.strs {w : World} {B : Nat} {v : Value} {l : List ByteArray} (h : OS w B v l) (hs : ∀ s ∈ l, s.size ≤ maxLen) : ∃ A cap, v = .slice A l.length cap ∧ Strs w A l := by
  obtain ⟨A, cap, e, hv⟩ := OwnV.vals h
  rw [List.length_map] at e
  exact ⟨A, cap, e, hv, hs⟩
theorem wpList_pushS {ops : Array Oper} {rest : List Oper} {o : Oper} {a : Act} {Q : Exit → Act → World → Prop} (w : World) (s : ByteArray) (B : Nat) (l : List ByteArray) (x y : Operand)
    (hgd : o.guard = none) (ho : o.op = .call { callee := .builtin .append, args := #[x, y], argTypes := #[54, 54] })
    (v : Value) (hs : a.eval x = v) (hx : a.eval y = .slice (some ⟨w.heap.size, 0, none⟩) 1 1) (hown : OS w B v l) (hl : l.length + 1 ≤ 8796093022208) (hB : B ≤ w.heap.size)
    (h : ∀ v' w', OS w' B v' (l ++ [s]) → Below B w w' → w.grownBy w' v.ownBlock → wpList Tryd.prog ops Q rest (a.put o.dst v') w') :
    wpList Tryd.prog ops Q (o :: rest) a (w.alloc (.cells #[.string s] 9)) := by
  refine wpList_pushV w (.string s) rfl B (l.map Value.string) x y 54 9 16 (.string ⟨#[]⟩) Tryd.underlying54 info_str rfl hgd ho v hs hx hown ?_ ?_ hB ?_
  · rw [List.length_map]; omega
  · rw [List.length_map]; unfold maxLen; omega
  · intro v' w' h1 h2 _ h4
    exact h v' w' (by unfold OS; rw [List.map_append]; exact h1) h2 h4

end Go.Proofs.YtiohainnpjikpaaDoor

/- Pieces put together, with something between. -/
namespace WM
set_option linter.unusedVariables false
def catL (b : List UInt8) : List (List UInt8) → List UInt8
  | [] => []
  | [p] => p
  | p :: q :: r => p ++ (b ++ catL b (q :: r))
theorem catL_snoc (b : List UInt8) (ps : List (List UInt8)) (q : List UInt8) (h : ps ≠ []) : catL b (ps ++ [q]) = catL b ps ++ b ++ q := by
  induction ps with
  | nil => exact absurd rfl h
  | cons p ps ih =>
    cases ps with
    | nil => simp [catL]
    | cons r rs =>
      have e := ih (by simp)
      show p ++ (b ++ catL b (r :: rs ++ [q])) = (p ++ (b ++ catL b (r :: rs))) ++ b ++ q
      rw [e]; simp
theorem catL_one (b q : List UInt8) : catL b ([] ++ [q]) = q := rfl
theorem catL_join (ps : List (List UInt8)) : catL [32] ps = joinL ps := by
  induction ps with
  | nil => rfl
  | cons p ps ih =>
    cases ps with
    | nil => rfl
    | cons r rs => show p ++ ([32] ++ catL [32] (r :: rs)) = p ++ 32 :: joinL (r :: rs); rw [ih]; rfl
theorem catL_two (p q : List UInt8) : catL [] [p, q] = p ++ q := rfl
theorem catL_four (p q r s : List UInt8) : catL [] [p, q, r, s] = p ++ (q ++ (r ++ s)) := rfl
/-- all lengths, each with b more -/
def tl (b : Nat) (ns : List Nat) : Nat := (ns.map (· + b)).sum
theorem tl_snoc (b : Nat) (ns : List Nat) (n : Nat) : tl b (ns ++ [n]) = tl b ns + (n + b) := by simp [tl]
theorem tl_take (b : Nat) (ns : List Nat) (k : Nat) : tl b (ns.take k) ≤ tl b ns := by
  have : tl b ns = tl b (ns.take k) + tl b (ns.drop k) := by
    unfold tl
    rw [← List.sum_append, ← List.map_append, List.take_append_drop]
  omega
theorem catL_len (b : List UInt8) (ps : List (List UInt8)) : (catL b ps).length ≤ tl b.length (ps.map List.length) := by
  induction ps with
  | nil => simp [catL]
  | cons p ps ih =>
    cases ps with
    | nil => simp [catL, tl]
    | cons r rs =>
      have e : tl b.length ((p :: r :: rs).map List.length) = p.length + b.length + tl b.length ((r :: rs).map List.length) := by
        unfold tl; rw [List.map_cons, List.map_cons, List.sum_cons]
      rw [e]
      show (p ++ (b ++ catL b (r :: rs))).length ≤ _
      rw [List.length_append, List.length_append]
      omega
end WM

/- Contract: concat. -/
namespace Go.Proofs.YtiohainnpjikpaaDoor
open Go.RowKit
set_option linter.unusedVariables false

def sizes (ls : List ByteArray) : List Nat := ls.map ByteArray.size
def texts (ls : List ByteArray) : List (List UInt8) := ls.map L
theorem texts_sizes (ls : List ByteArray) : (texts ls).map List.length = sizes ls := by
  unfold texts sizes
  rw [List.map_map]
  apply List.map_congr_left
  intro s _
  exact L_len s
theorem sizes_step (b : Nat) (ls : List ByteArray) (k : Nat) (hk : k < ls.length) : WM.tl b (sizes (ls.take (k + 1))) = WM.tl b (sizes (ls.take k)) + (ls[k].size + b) ∧ WM.tl b (sizes (ls.take (k + 1))) ≤ WM.tl b (sizes ls) := by
  constructor
  · unfold sizes
    rw [List.take_succ_eq_append_getElem hk, List.map_append, List.map_singleton, WM.tl_snoc]
  · have := WM.tl_take b (sizes ls) (k + 1)
    unfold sizes at *
    rw [List.map_take]
    exact this
theorem texts_step (b : List UInt8) (ls : List ByteArray) (k : Nat) (hk : k < ls.length) : WM.catL b (texts (ls.take (k + 1))) = (if k = 0 then [] else WM.catL b (texts (ls.take k)) ++ b) ++ L ls[k] := by
  unfold texts
  rw [List.take_succ_eq_append_getElem hk, List.map_append, List.map_singleton]
  by_cases h : k = 0
  · subst h; simp [WM.catL]
  · rw [if_neg h, WM.catL_snoc]
    intro e
    have := congrArg List.length e
    simp at this
    rcases this with h1 | h1
    · exact h h1
    · rw [h1] at hk; simp at hk
theorem cat_le (b : List UInt8) (ls : List ByteArray) (k : Nat) : (WM.catL b (texts (ls.take k))).length ≤ WM.tl b.length (sizes (ls.take k)) := by
  rw [← texts_sizes]; exact WM.catL_len _ _

set_option maxHeartbeats 2000000 in
theorem concat_any (b : ByteArray) (A : Option Addr) (ls : List ByteArray) (cap : Nat) (w : World) (hb : b.size ≤ 9223372036854775807) (hI : Strs w A ls) (hl : WM.tl b.size (sizes ls) ≤ 140737488355328) :
    Calls Tryd.prog 69 #[.string b, .slice A ls.length cap] w fun e w' => e = .returned (.string (S (WM.catL (L b) (texts ls)))) ∧ Below w.heap.size w w' := by
  obtain ⟨i0, hi, hz0, hz1, hz2⟩ := info_parts info_u8
  have HI0 := Lib.hid hi; have HZ0 := Lib.hid hz0; have HZ1 := Lib.hid hz1; have HZ2 := Lib.hid hz2
  clear hi hz0 hz1 hz2
  generalize hr : S (WM.catL (L b) (texts ls)) = res
  have HR := Lib.hid hr
  clear hr
  have hlen := hI.len
  go_enter Tryd.func69, Tryd.ntmps69
  go_wp2
  go_loop [5, 13] (fun n i => ∃ k x : Nat, k ≤ ls.length ∧ i = .int .i64 k ∧ n = .int .i64 (x : Int) ∧ x ≤ 140737488355328 ∧ Hid (WM.tl b.size (sizes (ls.take k)) = x)) (fun _ i => ls.length - (intOf i).toNat)
  case atStart => exact ⟨0, 0, by omega, rfl, rfl, by omega, Lib.hid rfl⟩
  case round =>
    obtain ⟨k, x, hk, rfl, rfl, hx, HX⟩ := hrel
    by_cases hlt : k < ls.length
    · obtain ⟨g, off, s, rfl, hg, hcell, HS, hs⟩ := hI.get hlt
      have HI := Lib.hid hI
      clear hI
      have hst := sizes_step b.size ls k hlt
      rw [HS.out, HX.out] at hst
      have hst2 := hst.1 ▸ hst.2
      have HST := Lib.hid hst.1
      have bnd : x + (s.size + b.size) ≤ 140737488355328 := by omega
      clear hst hst2
      go_wp2
      go_round
      case rel => exact ⟨k + 1, x + (s.size + b.size), by omega, by go_num, by go_num, bnd, HST⟩
      case measure => simp [intOf]; omega
    · obtain rfl : k = ls.length := by omega
      have HX2 := HX.out
      rw [List.take_of_length_le (Nat.le_refl _)] at HX2
      clear HX
      have HX := Lib.hid HX2
      clear HX2
      go_wp2_with (refine wpList_make_own _ rfl _ _ _ rfl w.heap.size 5 i0 _ 1 Tryd.underlying94 HI0.out HZ0.out HZ1.out .i64 .i64 (x : Int) x rfl rfl rfl ?c1 ?c2 (Nat.le_refl _) ?_)
      case c1 => rw [HZ2.out]; omega
      case c2 => unfold maxLen; omega
      intro w1 own1 g1
      have ob1 : OB w1 w.heap.size (.slice (some ⟨w.heap.size, 0, none⟩) 0 x) [] := own1
      have b1 : Below w.heap.size w w1 := (Below.refl _ _).grown g1 (Nat.le_refl _) (fun _ h => by cases h)
      clear own1 g1
      have HOB := Lib.hid ob1
      have HB1 := Lib.hid b1
      clear ob1 b1
      go_wp2
      go_loopw [8, 29] (fun v i wr => ∃ k : Nat, k ≤ ls.length ∧ i = .int .i64 k ∧ Hid (OB wr w.heap.size v (WM.catL (L b) (texts (ls.take k)))) ∧ Hid (Below w.heap.size w wr)) (fun _ i _ => ls.length - (intOf i).toNat)
      case atStart => exact ⟨0, by omega, rfl, HOB, HB1⟩
      case round =>
        clear HOB HB1
        obtain ⟨k, hk2, rfl, HOB, HB⟩ := hrel
        by_cases hlt : k < ls.length
        · obtain ⟨g, off, s, rfl, hg, hcell, HS, hs⟩ := (hI.below HB.out).get hlt
          have HI := Lib.hid hI
          clear hI
          have hst := sizes_step b.size ls k hlt
          have hcl := cat_le (L b) ls k
          rw [L_len] at hcl
          rw [HS.out] at hst
          have bnd : (WM.catL (L b) (texts (ls.take k))).length + (s.size + b.size) ≤ 140737488355328 := by omega
          have HT := texts_step (L b) ls k hlt
          rw [HS.out] at HT
          clear hst hcl
          by_cases hk0 : k = 0
          · rw [if_pos hk0] at HT
            have HT2 : Hid (WM.catL (L b) (texts (ls.take (k + 1))) = WM.catL (L b) (texts (ls.take k)) ++ L s) := Lib.hid (by rw [HT, hk0]; rfl)
            clear HT
            have HT := HT2
            clear HT2
            have hk1 : ¬ 0 < k := by omega
            have hk3 : decide (0 < k) = false := decide_eq_false hk1
            clear hk0
            go_wp2_with (at_builtin; refine wpList_catS _ w.heap.size _ s _ _ rfl rfl _ rfl rfl HOB.out ?c1 ?c2 ?_)
            case c1 => omega
            case c2 => exact HB.out.size
            intro v1 w1 ob1 b1 _
            have HO1 : Hid (OB w1 w.heap.size v1 (WM.catL (L b) (texts (ls.take (k + 1))))) := Lib.hid (by rw [HT.out]; exact ob1)
            have HB1 := Lib.hid (HB.out.trans b1)
            clear ob1 b1 hcell
            go_wp2
            go_roundw
            case rel => exact ⟨k + 1, by omega, by go_num, HO1, HB1⟩
            case measure => simp [intOf]; omega
          · rw [if_neg hk0] at HT
            have HT := Lib.hid HT
            have hkp : 0 < k := by omega
            go_wp2_with (at_builtin; refine wpList_catS _ w.heap.size _ b _ _ rfl rfl _ rfl rfl HOB.out ?c1 ?c2 ?_)
            case c1 => omega
            case c2 => exact HB.out.size
            intro v1 w1 ob1 b1 _
            have HO1 := Lib.hid ob1
            have HB1 := Lib.hid (HB.out.trans b1)
            clear ob1 b1 hcell
            go_wp2_with (at_builtin; refine wpList_catS _ w.heap.size _ s _ _ rfl rfl _ rfl rfl HO1.out ?c3 ?c4 ?_)
            case c3 => rw [List.length_append, L_len]; omega
            case c4 => exact HB1.out.size
            intro v2 w2 ob2 b2 _
            have HO2 : Hid (OB w2 w.heap.size v2 (WM.catL (L b) (texts (ls.take (k + 1))))) := Lib.hid (by rw [HT.out, List.append_assoc]; exact ob2)
            have HB2 := Lib.hid (HB1.out.trans b2)
            clear ob2 b2
            go_wp2
            go_roundw
            case rel => exact ⟨k + 1, by omega, by go_num, HO2, HB2⟩
            case measure => simp [intOf]; omega
        · obtain rfl : k = ls.length := by omega
          have ho := HOB.out
          rw [List.take_of_length_le (Nat.le_refl _)] at ho
          obtain ⟨A2, c2, rfl, hby⟩ := ho.bytes
          have hcv := str_of hby c2
          rw [HR.out] at hcv
          clear hby ho HOB
          go_wp2
          go_ret
          exact ⟨rfl, HB.out⟩
end Go.Proofs.YtiohainnpjikpaaDoor

/- Contracts: the reference's numbers; names. -/
namespace Go.Proofs.YtiohainnpjikpaaDoor
open Go.RowKit
set_option linter.unusedVariables false

set_option maxHeartbeats 1000000 in
theorem rvalue_any (s : ByteArray) (w : World) (hs : s.size ≤ 9223372036854775807) (hd : (L s).all WM.dig = true) :
    Calls Tryd.prog 64 #[.string s] w fun e w' => e = .returned (.int .i64 (WM.sval (L s))) ∧ w = w' := by
  have HD := Lib.hid hd
  clear hd
  generalize hv : WM.sval (L s) = v
  have HV := Lib.hid hv
  clear hv
  go_enter Tryd.func64, Tryd.ntmps64
  go_wp2
  go_loop [3, 4] (fun n i => ∃ k : Nat, ∃ x : Int, k ≤ s.size ∧ i = .int .i64 k ∧ n = .int .i64 x ∧ 0 ≤ x ∧ x ≤ 1152921504606846979 ∧ Hid (WM.sval ((L s).take k) = x)) (fun _ i => s.size - (intOf i).toNat)
  case atStart => exact ⟨0, 0, by omega, rfl, rfl, by omega, by omega, Lib.hid rfl⟩
  case round =>
    obtain ⟨k, x, hk, rfl, rfl, x0, x1, HX⟩ := hrel
    by_cases hlt : k < s.size
    · by_cases hx : 115292150460684697 < x
      · have HN := Lib.hid (WM.sval_over k (by rw [L_len]; exact hlt) (by rw [HX.out]; exact hx))
        go_wp2
        go_ret
        exact ⟨by rw [← HV.out, HN.out]; rfl, rfl⟩
      · have hc : WM.dig s[k] = true := by rw [← L_get s k hlt]; exact WM.all_get HD.out k (by rw [L_len]; exact hlt)
        have hst := WM.sval_snoc ((L s).take k) s[k]
        have hdr := WM.dval_range hc
        obtain ⟨d1, d2⟩ := WM.dig_true.1 hc
        rw [← L_take_succ s k hlt, HX.out, if_neg hx] at hst
        have HS := Lib.hid hst
        clear hst hdr hc
        unfold WM.dval at HS
        go_wp2
        go_round
        case rel => exact ⟨k + 1, _, by omega, by go_num, rfl, by omega, by omega, Lib.hid (by rw [HS.out])⟩
        case measure => simp [intOf]; omega
    · obtain rfl : k = s.size := by omega
      have HE := HX.out
      rw [L_take_all] at HE
      have HE := Lib.hid HE
      go_wp2
      go_ret
      exact ⟨by rw [← HV.out, HE.out]; rfl, rfl⟩

theorem rsigned_any (v : Int) (b : Bool) (w : World) (v0 : 0 ≤ v) (v1 : v ≤ 1152921504606846979) :
    Calls Tryd.prog 63 #[.int .i64 v, .bool b] w fun e w' => e = .returned (.tuple #[.int .i64 (WM.signN v b), .int .i64 (WM.signE v b)]) ∧ w = w' := by
  generalize hn : WM.signN v b = rn
  generalize he : WM.signE v b = re
  have HN := Lib.hid hn
  have HE := Lib.hid he
  clear hn he
  by_cases c1 : 1152921504606846976 < v
  · have H1 : Hid (rn = 0 ∧ re = 3) := Lib.hid (by
      rw [← HN.out, ← HE.out]; unfold WM.signN WM.signE WM.most
      have : v ≠ 0 := by omega
      simp [c1, this])
    have d0 : (v == 0) = false := by simp; omega
    cases b
    · go_enter Tryd.func63, Tryd.ntmps63
      go_wp2
      go_ret2
      exact ⟨by rw [H1.out.1, H1.out.2]; rfl, rfl⟩
    · go_enter Tryd.func63, Tryd.ntmps63
      go_wp2
      go_ret2
      exact ⟨by rw [H1.out.1, H1.out.2]; rfl, rfl⟩
  · have hm : ¬ WM.most < v := by unfold WM.most; omega
    cases b
    · have H1 : Hid (rn = v ∧ re = 0) := Lib.hid (by rw [← HN.out, ← HE.out]; unfold WM.signN WM.signE; simp [hm])
      clear hm
      go_enter Tryd.func63, Tryd.ntmps63
      go_wp2
      go_ret2
      exact ⟨by rw [H1.out.1, H1.out.2]; rfl, rfl⟩
    · by_cases c0 : v = 0
      · subst c0
        have H1 : Hid (rn = 0 ∧ re = 5) := Lib.hid (by rw [← HN.out, ← HE.out]; exact ⟨rfl, rfl⟩)
        clear hm
        go_enter Tryd.func63, Tryd.ntmps63
        go_wp2
        go_ret2
        exact ⟨by rw [H1.out.1, H1.out.2]; rfl, rfl⟩
      · have H1 : Hid (rn = -v ∧ re = 0) := Lib.hid (by rw [← HN.out, ← HE.out]; unfold WM.signN WM.signE; simp [hm, c0])
        have d0 : (v == 0) = false := by simpa using c0
        clear hm
        go_enter Tryd.func63, Tryd.ntmps63
        go_wp2
        go_ret2
        exact ⟨by rw [H1.out.1, H1.out.2]; rfl, rfl⟩

theorem rint_any (s : ByteArray) (w : World) (hs : s.size ≤ 9223372036854775807) :
    Calls Tryd.prog 36 #[.string s] w fun e w' => e = .returned (.tuple #[.int .i64 (WM.intN (L s)), .int .i64 (WM.intE (L s))]) ∧ w = w' := by
  generalize hn : WM.intN (L s) = rn
  generalize he : WM.intE (L s) = re
  have HN := Lib.hid hn
  have HE := Lib.hid he
  clear hn he
  obtain ⟨t, h1, h2, h3⟩ := cut_parts s
  have h4 : t.size ≤ 9223372036854775807 := by omega
  have H1 := Lib.hid h1
  clear h1
  have fin : ∀ b, WM.below (L s) = b → WM.digits (L t) = false → rn = 0 ∧ re = 5 := by
    intro b hb hd
    rw [← HN.out, ← HE.out]; unfold WM.intN WM.intE; rw [← H1.out, hd]; exact ⟨rfl, rfl⟩
  have fin2 : ∀ b, WM.below (L s) = b → WM.digits (L t) = true → rn = WM.signN (WM.sval (L t)) b ∧ re = WM.signE (WM.sval (L t)) b := by
    intro b hb hd
    have hv := WM.sign_sval (WM.digits_all hd) b
    rw [← HN.out, ← HE.out]; unfold WM.intN WM.intE; rw [← H1.out, hd, hb, hv.1, hv.2]; exact ⟨rfl, rfl⟩
  have F1 := Lib.hid fin; have F2 := Lib.hid fin2
  clear fin fin2
  rcases h3 with ⟨h0, rfl, hb⟩ | ⟨hp, c, rfl, hb⟩ | ⟨hp, c, ht, hb⟩
  · have HB := Lib.hid hb
    have c0 : decide (0 < t.size) = false := decide_eq_false (by omega)
    clear hb h2 hs
    have hd : WM.digits (L t) = false := by rw [L_nil h0]; rfl
    have HF := Lib.hid (F1.out _ HB.out hd)
    go_enter Tryd.func36, Tryd.ntmps36
    go_wp2_with fail
    refine (rdigits_any t _ h4).mono ?_
    rintro e w' ⟨rfl, rfl⟩
    go_wp2
    go_ret2
    exact ⟨by rw [HF.out.1, HF.out.2]; rfl, rfl⟩
  · have HB := Lib.hid hb
    clear hb h2 hs
    cases hd : WM.digits (L t)
    · have HF := Lib.hid (F1.out _ HB.out hd)
      go_enter Tryd.func36, Tryd.ntmps36
      go_wp2_with fail
      refine (rdigits_any t _ h4).mono ?_
      rintro e w' ⟨rfl, rfl⟩
      go_wp2
      go_ret2
      exact ⟨by rw [HF.out.1, HF.out.2]; rfl, rfl⟩
    · have HD := Lib.hid hd
      go_enter Tryd.func36, Tryd.ntmps36
      go_wp2_with fail
      refine (rdigits_any t _ h4).mono ?_
      rintro e w' ⟨rfl, rfl⟩
      go_wp2_with fail
      refine (rvalue_any t _ h4 (WM.digits_all HD.out)).mono ?_
      rintro e w' ⟨rfl, rfl⟩
      have HF := Lib.hid (F2.out _ HB.out HD.out)
      obtain ⟨v0, v1⟩ := (WM.sval_val (WM.digits_all HD.out)).1
      go_wp2_with fail
      refine (rsigned_any _ _ _ v0 v1).mono ?_
      rintro e w' ⟨rfl, rfl⟩
      go_wp2
      go_ret2
      exact ⟨by rw [HF.out.1, HF.out.2]; rfl, rfl⟩
  · have HB := Lib.hid hb
    have HT := Lib.hid ht
    clear hb h2 ht
    cases hd : WM.digits (L t)
    · have HF := Lib.hid (F1.out _ HB.out hd)
      go_enter Tryd.func36, Tryd.ntmps36
      go_wp2_with fail
      rw [← HT.out]
      refine (rdigits_any t _ h4).mono ?_
      rintro e w' ⟨rfl, rfl⟩
      go_wp2
      go_ret2
      exact ⟨by rw [HF.out.1, HF.out.2]; rfl, rfl⟩
    · have HD := Lib.hid hd
      go_enter Tryd.func36, Tryd.ntmps36
      go_wp2_with fail
      rw [← HT.out]
      refine (rdigits_any t _ h4).mono ?_
      rintro e w' ⟨rfl, rfl⟩
      go_wp2_with fail
      refine (rvalue_any t _ h4 (WM.digits_all HD.out)).mono ?_
      rintro e w' ⟨rfl, rfl⟩
      have HF := Lib.hid (F2.out _ HB.out HD.out)
      obtain ⟨v0, v1⟩ := (WM.sval_val (WM.digits_all HD.out)).1
      go_wp2_with fail
      refine (rsigned_any _ _ _ v0 v1).mono ?_
      rintro e w' ⟨rfl, rfl⟩
      go_wp2
      go_ret2
      exact ⟨by rw [HF.out.1, HF.out.2]; rfl, rfl⟩
end Go.Proofs.YtiohainnpjikpaaDoor

/- Contracts: what reads money. -/
namespace Go.Proofs.YtiohainnpjikpaaDoor
open Go.RowKit
set_option linter.unusedVariables false

theorem Strs.made (w : World) (ls : List ByteArray) (h : ∀ s ∈ ls, s.size ≤ maxLen) (hl : ls.length ≤ maxLen) : Strs (w.alloc (.cells (ls.map Value.string).toArray 9)) (some ⟨w.heap.size, 0, none⟩) ls := by
  refine ⟨⟨by rw [List.length_map]; exact hl, .inr ⟨w.heap.size, 0, rfl, by simp, fun i hi => ?_⟩⟩, h⟩
  rw [Nat.zero_add]
  rw [World.cell?_alloc_mark]
  simp
theorem quiet_eq {P : Program} {f : FuncId} {args : Array Value} {w : World} {n : Nat} {v : Value}
    (h : Calls P f args (w.drewN n) fun e w' => e = .returned v ∧ w.drewN n = w') : Calls P f args (w.drewN n) fun e w'' => e = .returned v ∧ ∃ m, w'' = w.drewN m :=
  h.mono fun _ _ ⟨he, hm⟩ => ⟨he, n, hm.symm⟩

theorem cok_of (t : ByteArray) (p : Nat) (hpl : p < t.size) (hp : t.size = p + 3) : WM.cok (L t) = ((t[p] == 46) && WM.digits (L (t.extract 0 p)) && (L (t.extract (p + 1) t.size)).all WM.dig) ∧
    WM.cval (L t) = WM.val (L (t.extract 0 p) ++ L (t.extract (p + 1) t.size)) := by
  have e1 : (L t).length - 3 = p := by rw [L_len]; omega
  have e2 : (L t).length - 2 = p + 1 := by rw [L_len]; omega
  have e3 : L (t.extract 0 p) = (L t).take p := by rw [L_extract]; simp
  have e4 : L (t.extract (p + 1) t.size) = (L t).drop (p + 1) := by rw [L_extract, L_take_all]
  have e5 : (L t).getD p 0 = t[p]'(by omega) := by
    rw [← L_get t p (by omega)]
    simp [List.getD, List.getElem?_eq_getElem (show p < (L t).length by rw [L_len]; omega)]
  refine ⟨?_, by unfold WM.cval; rw [e1, e2, e3, e4]⟩
  unfold WM.cok
  rw [e1, e2, e3, e4, e5]
  by_cases h : p = 0
  · subst h
    simp [WM.digits_nil]
  · have : decide (4 ≤ (L t).length) = true := by rw [L_len]; simp; omega
    rw [this]; simp

theorem cok_short (t : ByteArray) (h : t.size < 3) : WM.cok (L t) = false := by
  unfold WM.cok
  have : decide (4 ≤ (L t).length) = false := decide_eq_false (by rw [L_len]; omega)
  rw [this]; rfl

theorem dot_eq (c : UInt8) : ((c.toNat : Int) != 46) = !(c == 46) := by
  rw [Bool.eq_iff_iff]
  simp only [bne_iff_ne, ne_eq, Bool.not_eq_true', beq_eq_false_iff_ne]
  constructor
  · intro h h'; exact h (by rw [h']; rfl)
  · intro h h'; exact h (UInt8.toNat_inj.1 (by have : (46 : UInt8).toNat = 46 := rfl; omega))

theorem one_dig (c : ByteArray) (h : 0 < c.size) : WM.digits (L (ByteArray.mk #[49] ++ c)) = (L c).all WM.dig := by
  have hl := L_len c
  rw [L_append]
  have e : L (ByteArray.mk #[49]) = [49] := rfl
  rw [e, WM.digits_def (by simp)]
  have h1 : decide (1 < ([49] ++ L c).length) = true := by
    apply decide_eq_true
    rw [List.length_append, hl]
    simp; omega
  rw [h1]
  have h2 : WM.dig 49 = true := by decide
  simp [h2]

end Go.Proofs.YtiohainnpjikpaaDoor

/- The digits of a number, at least so many. -/
namespace WM
set_option linter.unusedVariables false
def dp (u k : Nat) : List UInt8 := if h : u = 0 ∧ k = 0 then [] else dp (u / 10) (k - 1) ++ [UInt8.ofNat (48 + u % 10)]
termination_by u + k
decreasing_by omega
theorem dp_done : dp 0 0 = [] := by rw [dp]; simp
theorem dp_step {u k : Nat} (h : 0 < u ∨ 0 < k) : dp u k = dp (u / 10) (k - 1) ++ [UInt8.ofNat (48 + u % 10)] := by
  rw [dp, dif_neg (by omega)]
theorem dp_dec (u : Nat) : (0 < u → dp u 0 = dec u) ∧ dp u 1 = dec u := by
  induction u using dec.induct with
  | case1 u h =>
    rw [dec_small h]
    have e : u / 10 = 0 := by omega
    have e2 : u % 10 = u := by omega
    constructor
    · intro h0
      rw [dp_step (.inl h0), e, dp_done, e2]; rfl
    · rw [dp_step (.inr (by omega)), e, dp_done, e2]; rfl
  | case2 u h ih =>
    rw [dec_big h]
    have e := ih.1 (by omega)
    constructor
    · intro h0
      rw [dp_step (.inl h0)]; show dp (u / 10) 0 ++ _ = _; rw [e]
    · rw [dp_step (.inr (by omega))]; show dp (u / 10) 0 ++ _ = _; rw [e]
theorem dp_three (u : Nat) : dp u 3 = dec (u / 100) ++ [UInt8.ofNat (48 + u / 10 % 10), UInt8.ofNat (48 + u % 10)] := by
  rw [dp_step (.inr (by omega))]
  show dp (u / 10) 2 ++ _ = _
  rw [dp_step (.inr (by omega))]
  show dp (u / 10 / 10) 1 ++ _ ++ _ = _
  rw [(dp_dec _).2, show u / 10 / 10 = u / 100 by omega]
  simp
/-- with the digits behind that are there already -/
theorem dp_go {u x r : Nat} {ws full : List UInt8} (h : dp x r ++ ws = full) (hc : 0 < x ∨ 0 < r) : dp (x / 10) (r - 1) ++ (UInt8.ofNat (48 + x % 10) :: ws) = full := by
  rw [dp_step hc] at h
  simpa using h
theorem pow_step (u j : Nat) : u / 10 ^ (j + 1) = u / 10 ^ j / 10 := by rw [Nat.pow_succ, Nat.div_div_eq_div_mul]
theorem pow_end {u : Nat} (h : u < 18446744073709551616) : u / 10 ^ 20 = 0 := Nat.div_eq_of_lt (by omega)
end WM
