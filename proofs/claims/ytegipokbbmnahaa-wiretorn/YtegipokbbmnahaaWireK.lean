/- Contracts: texts and frames at a place, the reference's. -/
import Derived.Test.YtegipokbbmnahaaWireJ
import Derived.Test.YtegipokbbmnahaaWireI
namespace Go.Proofs.Ytegipokbbmnahaa
open Go.RowKit
set_option linter.unusedVariables false
attribute [local go_sem ↓] Go.wp_at_zero Go.wp_at_succ

theorem rint4_out (A : Option Addr) (n cap : Nat) (p : Int) (w : World) (hp : p < 0 ∨ (n : Int) < p) :
    Calls Try.prog 36 #[.slice A n cap, .int .i64 p] w fun e w' => e = .returned (.tuple #[.int .i64 0, .int .i64 0, .int .i64 2]) ∧ w = w' := by
  by_cases h : p < 0
  · go_enter Try.func36, Try.ntmps36
    go_wp2
    go_ret3
    exact ⟨rfl, rfl⟩
  · have h2 : (n : Int) < p := by omega
    have h3 : decide (p < 0) = false := decide_eq_false h
    go_enter Try.func36, Try.ntmps36
    go_wp2
    go_ret3
    exact ⟨rfl, rfl⟩

theorem retS3 {s : ByteArray} {k : IntKind} {a b c d : Int} (h2 : a = b) (h3 : c = d) : Ending.returned (.tuple #[.string s, .int k a, .int k c]) = .returned (.tuple #[.string s, .int k b, .int k d]) := by rw [h2, h3]

set_option maxHeartbeats 1000000 in
theorem rtext4_any (A : Option Addr) (n cap : Nat) (l : List UInt8) (p : Nat) (w : World) (hn : n = l.length) (hc : l.length ≤ cap) (hA : Bytes w A l) (hl : l.length ≤ 1000000) (hp : p ≤ l.length) :
    Calls Try.prog 42 #[.slice A n cap, .int .i64 (p : Int)] w fun e w' => e = .returned (.tuple #[.string (S (XM.textN (l.drop p))), .int .i64 (offOr (XM.textE (l.drop p)) ((p : Int) + XM.textK (l.drop p))), .int .i64 (XM.textE (l.drop p))]) ∧ w = w' := by
  subst hn
  have CI := rint4_any A l.length cap l p w rfl hA hl hp
  have hcs := text_cases (l.drop p)
  rw [List.length_drop] at hcs
  have hno : XM.textE (l.drop p) ≠ 0 → XM.textN (l.drop p) = [] := fun h => by unfold XM.textN; rw [if_neg h]
  have hK : XM.intE (l.drop p) = 0 → XM.intK (l.drop p) + p ≤ l.length := by
    intro h
    have := (XM.int_only h).2.2.1
    rw [List.length_drop] at this; omega
  have hyes : XM.textE (l.drop p) = 0 → (l.take (p + XM.textK (l.drop p))).drop (p + XM.intK (l.drop p)) = XM.textN (l.drop p) ∧ p + XM.intK (l.drop p) ≤ p + XM.textK (l.drop p) ∧ p + XM.textK (l.drop p) ≤ l.length := fun h => text_part hp h
  generalize XM.intN (l.drop p) = iN at *
  generalize XM.intE (l.drop p) = iE at *
  generalize XM.intK (l.drop p) = iK at *
  generalize XM.textE (l.drop p) = tE at *
  generalize XM.textK (l.drop p) = tK at *
  generalize XM.textN (l.drop p) = tN at *
  rcases hcs with ⟨c0, rfl, c1⟩ | ⟨rfl, c1, rfl⟩ | ⟨rfl, c1, c2, rfl⟩ | ⟨rfl, c1, c2, c3, rfl⟩ | ⟨rfl, c1, c2, c3, rfl, hT⟩
  · rw [offOr_no c0] at CI ⊢
    rw [hno c0]
    have d0 : (tE != 0) = true := by simpa using c0
    have HCI := Lib.hid CI
    clear CI c0 c1 hK hno hyes hA
    go_enter Try.func42, Try.ntmps42
    go_wp2_with fail
    (with_reducible refine HCI.out.mono ?_)
    rintro e w' ⟨rfl, rfl⟩
    go_wp2
    go_ret3
    exact ⟨rfl, rfl⟩
  · rw [offOr_no (by omega), hno (by omega)]
    rw [offOr_ok rfl] at CI
    have HCI := Lib.hid CI
    clear CI hno hyes hA hK
    go_enter Try.func42, Try.ntmps42
    go_wp2_with fail
    (with_reducible refine HCI.out.mono ?_)
    rintro e w' ⟨rfl, rfl⟩
    go_wp2
    go_ret3
    exact ⟨rfl, rfl⟩
  · rw [offOr_no (by omega), hno (by omega)]
    rw [offOr_ok rfl] at CI
    have HCI := Lib.hid CI
    clear CI hno hyes hA hK
    have d1 : ¬ iN < 0 := by omega
    go_enter Try.func42, Try.ntmps42
    go_wp2_with fail
    (with_reducible refine HCI.out.mono ?_)
    rintro e w' ⟨rfl, rfl⟩
    go_wp2
    go_ret3
    exact ⟨rfl, rfl⟩
  · rw [offOr_no (by omega), hno (by omega)]
    rw [offOr_ok rfl] at CI
    have HCI := Lib.hid CI
    have hK2 := hK rfl
    clear CI hno hyes hA hK
    have d1 : ¬ iN < 0 := by omega
    have d2 : ¬ 65536 < iN := by omega
    have d3 : (l.length : Int) - ((p : Int) + iK) < iN := by omega
    go_enter Try.func42, Try.ntmps42
    go_wp2_with fail
    (with_reducible refine HCI.out.mono ?_)
    rintro e w' ⟨rfl, rfl⟩
    go_wp2
    go_ret3
    exact ⟨rfl, rfl⟩
  · rw [offOr_ok rfl] at CI ⊢
    obtain ⟨e1, e2, e3⟩ := hyes rfl
    have hb := hA.cut e2 e3 hc
    rw [e1] at hb
    have hcv := str_of hb (cap - (p + iK))
    have hsl := run_part (A := A) (n := l.length) (cap := cap) e2 (by omega) w
    have hlen : tN.length = p + tK - (p + iK) := by
      rw [← e1, List.length_drop, List.length_take]; omega
    rw [hlen] at hcv
    have q1 : ((p : Int) + iK) = ((p + iK : Nat) : Int) := by omega
    have q2 : ((p : Int) + tK) = ((p + tK : Nat) : Int) := by omega
    have q3 : ((p + iK : Nat) : Int) + iN = ((p + tK : Nat) : Int) := by rw [hT]; omega
    rw [q1] at CI
    rw [q2]
    have hK2 := hK rfl
    generalize p + iK = a at *
    generalize p + tK = b at *
    have HCI := Lib.hid CI
    have d1 : ¬ iN < 0 := by omega
    have d2 : ¬ 65536 < iN := by omega
    have d3 : ¬ (l.length : Int) - (a : Int) < iN := by omega
    generalize cutA A cap a = A' at *
    clear CI hno hyes hA hK hT hb hlen e1 q1 q2 c3
    go_enter Try.func42, Try.ntmps42
    go_wp2_with fail
    (with_reducible refine HCI.out.mono ?_)
    rintro e w' ⟨rfl, rfl⟩
    go_wp2
    go_ret3
    exact ⟨rfl, rfl⟩

theorem rtext4_out (A : Option Addr) (n cap : Nat) (p : Int) (w : World) (hp : p < 0 ∨ (n : Int) < p) :
    Calls Try.prog 42 #[.slice A n cap, .int .i64 p] w fun e w' => e = .returned (.tuple #[.string (S []), .int .i64 0, .int .i64 2]) ∧ w = w' := by
  have HC := Lib.hid (rint4_out A n cap p w hp)
  clear hp
  go_enter Try.func42, Try.ntmps42
  go_wp2_with fail
  (with_reducible refine HC.out.mono ?_)
  rintro e w' ⟨rfl, rfl⟩
  go_wp2
  go_ret3
  exact ⟨rfl, rfl⟩

theorem rframe_out (A : Option Addr) (n cap : Nat) (p : Int) (w : World) (hp : p < 0 ∨ (n : Int) < p) :
    Calls Try.prog 46 #[.slice A n cap, .int .i64 p] w fun e w' => e = .returned (.tuple #[.slice none 0 0, .int .i64 0, .int .i64 2]) ∧ w = w' := by
  have HC := Lib.hid (rtext4_out A n cap p w hp)
  clear hp
  go_enter Try.func46, Try.ntmps46
  go_wp2_with fail
  (with_reducible refine HC.out.mono ?_)
  rintro e w' ⟨rfl, rfl⟩
  go_wp2
  go_ret3
  exact ⟨rfl, rfl⟩

/-- bytes, in a block that holds bytes -/
def BT (w : World) (v : Value) (l : List UInt8) : Prop := ∃ A cap, v = .slice A l.length cap ∧ Bytes w A l ∧ (∀ b off, A = some ⟨b, off, none⟩ → ∃ cs fr, w.heap[b]? = some (.cells cs 5 fr)) ∧ (∀ ad, A = some ad → ad.spot = none)
theorem BT.nil (w : World) : BT w (.slice none 0 0) [] := ⟨none, 0, rfl, Bytes.nil _ _, (fun _ _ h => by cases h), (fun _ h => by cases h)⟩
theorem BT.below {w w' : World} {v : Value} {l : List UInt8} (h : BT w v l) (hb : Below w.heap.size w w') : BT w' v l := by
  obtain ⟨A, cap, rfl, h1, h2, h3⟩ := h
  refine ⟨A, cap, rfl, h1.below hb, fun b off e => ?_, h3⟩
  obtain ⟨cs, fr, h⟩ := h2 b off e
  have hlt : b < w.heap.size := by
    rcases Nat.lt_or_ge b w.heap.size with hlt | hge
    · exact hlt
    · rw [Array.getElem?_eq_none hge] at h; cases h
  exact ⟨cs, fr, (hb.block b hlt).trans h⟩
theorem BT.bytes {w : World} {v : Value} {l : List UInt8} (h : BT w v l) : ∃ A cap, v = .slice A l.length cap ∧ Bytes w A l := by
  obtain ⟨A, cap, e, h1, _⟩ := h
  exact ⟨A, cap, e, h1⟩
theorem bt_of (w : World) (s : ByteArray) (hs : s.size ≤ 9223372036854775807) : ∃ (cap : Nat) (w1 : World), (convert 9 40 (.string s)).run Try.prog w = .ok (.slice (some ⟨w.heap.size, 0, none⟩) s.size cap) w1 ∧ BT w1 (.slice (some ⟨w.heap.size, 0, none⟩) s.size cap) (L s) ∧ Below w.heap.size w w1 ∧ Bytes w1 (some ⟨w.heap.size, 0, none⟩) (L s) := by
  have hr := run_bytes_of_string w 9 40 5 s Try.underlying9 Try.underlying40 Try.underlying5
  obtain ⟨cap, w1, h1, h2, h3, _⟩ := bytes_of w s hs
  rw [hr] at h1
  injection h1 with e1 e2
  refine ⟨_, _, hr, ?_, by rw [e2]; exact h3, by rw [e2]; exact h2⟩
  refine ⟨some ⟨w.heap.size, 0, none⟩, _, by rw [L_len], by rw [e2]; exact h2, fun b off e => ?_, fun ad e => by injection e with e; rw [← e]⟩
  injection e with e
  injection e with e _
  subst e
  exact ⟨_, _, heap_alloc_new w.drew _⟩

set_option maxHeartbeats 4000000 in
theorem rframe_any (A : Option Addr) (n cap : Nat) (l : List UInt8) (p : Nat) (w : World) (hn : n = l.length) (hc : l.length ≤ cap) (hA : Bytes w A l) (hl : l.length ≤ 1000000) (hp : p ≤ l.length) :
    Calls Try.prog 46 #[.slice A n cap, .int .i64 (p : Int)] w fun e w' => (∃ v, e = .returned (.tuple #[v, .int .i64 (offOr (XM.frameE (l.drop p)) ((p : Int) + XM.frameK (l.drop p))), .int .i64 (XM.frameE (l.drop p))]) ∧ BT w' v (XM.frameN (l.drop p))) ∧ Below w.heap.size w w' := by
  subst hn
  have CT := rtext4_any A l.length cap l p w rfl hc hA hl hp
  have hcs := frame_cases (l.drop p)
  rw [List.length_drop] at hcs
  rcases hcs with ⟨c0, e1, e2⟩ | ⟨c0, c1, e1, e2⟩ | ⟨c0, c1, c2, e1, e2⟩ | ⟨c0, c1, c2, e1, e2, e3⟩
  · rw [offOr_no c0] at CT
    rw [e1, e2, offOr_no c0]
    generalize XM.textE (l.drop p) = tE at *
    generalize S (XM.textN (l.drop p)) = st at *
    have d0 : (tE != 0) = true := by simpa using c0
    have HCT := Lib.hid CT
    clear CT c0 e1 e2 hA
    go_enter Try.func46, Try.ntmps46
    go_wp2_with fail
    (with_reducible refine HCT.out.mono ?_)
    rintro e w' ⟨rfl, rfl⟩
    go_wp2
    go_ret3
    exact ⟨⟨_, rfl, BT.nil _⟩, Below.refl _ _⟩
  · obtain ⟨f1, f2, f3⟩ := text_part hp c0
    rw [c0, offOr_ok rfl] at CT
    rw [e1, e2, offOr_no (by omega)]
    have q2 : ((p : Int) + XM.textK (l.drop p)) = ((p + XM.textK (l.drop p) : Nat) : Int) := by omega
    rw [q2] at CT
    have d1 : (l.length : Int) - ((p + XM.textK (l.drop p) : Nat) : Int) < 4 := by omega
    generalize p + XM.textK (l.drop p) = b at *
    generalize S (XM.textN (l.drop p)) = st at *
    have HCT := Lib.hid CT
    clear CT c0 e1 e2 hA f1 f2 q2 c1
    go_enter Try.func46, Try.ntmps46
    go_wp2_with fail
    (with_reducible refine HCT.out.mono ?_)
    rintro e w' ⟨rfl, rfl⟩
    go_wp2
    go_ret3
    exact ⟨⟨_, rfl, BT.nil _⟩, Below.refl _ _⟩
  · obtain ⟨f1, f2, f3⟩ := text_part hp c0
    rw [c0, offOr_ok rfl] at CT
    rw [e1, e2, offOr_no (by omega)]
    have q2 : ((p : Int) + XM.textK (l.drop p)) = ((p + XM.textK (l.drop p) : Nat) : Int) := by omega
    have sp := sum_part l p (XM.textK (l.drop p))
    rw [← sp] at c2
    rw [q2] at CT
    have b4 : p + XM.textK (l.drop p) + 4 ≤ l.length := by omega
    have htl : (XM.textN (l.drop p)).length ≤ 1000000 := by rw [← f1, List.length_drop, List.length_take]; omega
    generalize XM.textN (l.drop p) = tN at *
    generalize p + XM.textK (l.drop p) = b at *
    have hbS := hA.cut (lo := b) (hi := b + 4) (by omega) b4 hc
    have hlS : ((l.take (b + 4)).drop b).length = 4 := by rw [List.length_drop, List.length_take]; omega
    generalize (l.take (b + 4)).drop b = sN at *
    have hsl1 := fun (ww : World) => run_part (A := A) (n := l.length) (cap := cap) (lo := b) (hi := b + 4) (by omega) (by omega) ww
    have e4 : ((b + 4 : Nat) : Int) = (b : Int) + 4 := by omega
    have e44 : b + 4 - b = 4 := by omega
    rw [e4, e44] at hsl1
    have HCV : Hid (∀ ww : World, Below w.heap.size w ww → (convert 40 9 (.slice (cutA A cap b) 4 (cap - b))).run Try.prog ww = .ok (.string (S sN)) ww) := Lib.hid (fun ww h => by
      have := str_of (hbS.below h) (cap - b)
      rw [hlS] at this
      exact this)
    have d1 : ¬ (l.length : Int) - (b : Int) < 4 := by omega
    have hsz : (S tN).size ≤ 9223372036854775807 := by rw [S_size]; omega
    have hw0 : Below w.heap.size w w.drew := (Below.refl _ _).drew
    obtain ⟨cB, wB, hcvB, _, bB, byB⟩ := bt_of w.drew (S tN) hsz
    rw [L_S] at byB
    have bB2 : Below w.heap.size w wB := hw0.trans bB
    have CS := rsum_any (some ⟨w.drew.heap.size, 0, none⟩) (S tN).size cB tN wB (S_size tN) byB
    have C4 := rfour_any (XM.sum tN) wB (XM.sum_lt tN)
    generalize hfo : XM.four (XM.sum tN) = fo at *
    generalize XM.sum tN = su at *
    have hcmp := S_eq sN fo
    have hd : decide (sN = fo) = false := decide_eq_false c2
    rw [hd] at hcmp
    clear hd c2
    have BO := fun (ww : World) => bt_of ww (S tN) hsz
    rw [L_S] at BO
    generalize S tN = st at *
    have HCT := Lib.hid CT; have HCS := Lib.hid CS; have HC4 := Lib.hid C4; have HBO := Lib.hid BO
    have HWB := Lib.hid bB2
    have hcv0 := HCV.out _ hw0
    have hcv1 := HCV.out _ bB2
    have i1 : (0 : Int) ≤ (b : Int) := by omega
    have i2 : (b : Int) ≤ (b : Int) + 4 := by omega
    have i3 : (b : Int) + 4 ≤ (cap : Int) := by omega
    have wr4 : IntKind.i64.wrap ((b : Int) + 4) = (b : Int) + 4 := by rw [IntKind.wrap_i64]; omega
    generalize cutA A cap b = AS at *
    clear CT CS C4 hA hbS hlS f1 f2 f3 q2 e4 e44 sp hw0 hfo bB bB2 byB BO hsz
    go_enter Try.func46, Try.ntmps46
    go_wp2_with fail
    (with_reducible refine HCT.out.mono ?_)
    rintro e w' ⟨rfl, rfl⟩
    go_wp2_with fail
    clear d1 htl
    go_region_with (first
      | (go_at_call 52; refine HCS.out.mono ?_; rintro e w1 ⟨rfl, rfl⟩)
      | (go_at_call 73; refine HC4.out.mono ?_; rintro e w2 ⟨⟨v2, rfl, o2⟩, b2⟩; obtain ⟨A3, c3, rfl, hb3⟩ := o2.bytes; have hcv2 := str_of hb3 c3; have HB2 := Lib.hid (HWB.out.trans (b2.mono HWB.out.size)); have hcv3 := HCV.out _ HB2.out; clear o2 b2 hb3))
    all_goals (
      go_wp2_with fail
      go_ret3
      exact ⟨⟨_, rfl, BT.nil _⟩, HB2.out⟩)
  · obtain ⟨f1, f2, f3⟩ := text_part hp c0
    rw [c0, offOr_ok rfl] at CT
    rw [e1, e2, offOr_ok rfl, e3]
    have q3 : ((p : Int) + ((XM.textK (l.drop p) + 4 : Nat) : Int)) = ((p + XM.textK (l.drop p) : Nat) : Int) + 4 := by omega
    rw [q3]
    have q2 : ((p : Int) + XM.textK (l.drop p)) = ((p + XM.textK (l.drop p) : Nat) : Int) := by omega
    have sp := sum_part l p (XM.textK (l.drop p))
    rw [← sp] at c2
    rw [q2] at CT
    have b4 : p + XM.textK (l.drop p) + 4 ≤ l.length := by omega
    have htl : (XM.textN (l.drop p)).length ≤ 1000000 := by rw [← f1, List.length_drop, List.length_take]; omega
    generalize XM.textN (l.drop p) = tN at *
    generalize p + XM.textK (l.drop p) = b at *
    have hbS := hA.cut (lo := b) (hi := b + 4) (by omega) b4 hc
    have hlS : ((l.take (b + 4)).drop b).length = 4 := by rw [List.length_drop, List.length_take]; omega
    generalize (l.take (b + 4)).drop b = sN at *
    have hsl1 := fun (ww : World) => run_part (A := A) (n := l.length) (cap := cap) (lo := b) (hi := b + 4) (by omega) (by omega) ww
    have e4 : ((b + 4 : Nat) : Int) = (b : Int) + 4 := by omega
    have e44 : b + 4 - b = 4 := by omega
    rw [e4, e44] at hsl1
    have HCV : Hid (∀ ww : World, Below w.heap.size w ww → (convert 40 9 (.slice (cutA A cap b) 4 (cap - b))).run Try.prog ww = .ok (.string (S sN)) ww) := Lib.hid (fun ww h => by
      have := str_of (hbS.below h) (cap - b)
      rw [hlS] at this
      exact this)
    have d1 : ¬ (l.length : Int) - (b : Int) < 4 := by omega
    have hsz : (S tN).size ≤ 9223372036854775807 := by rw [S_size]; omega
    have hw0 : Below w.heap.size w w.drew := (Below.refl _ _).drew
    obtain ⟨cB, wB, hcvB, _, bB, byB⟩ := bt_of w.drew (S tN) hsz
    rw [L_S] at byB
    have bB2 : Below w.heap.size w wB := hw0.trans bB
    have CS := rsum_any (some ⟨w.drew.heap.size, 0, none⟩) (S tN).size cB tN wB (S_size tN) byB
    have C4 := rfour_any (XM.sum tN) wB (XM.sum_lt tN)
    generalize hfo : XM.four (XM.sum tN) = fo at *
    generalize XM.sum tN = su at *
    have hcmp := S_eq sN fo
    have hd : decide (sN = fo) = true := decide_eq_true c2
    rw [hd] at hcmp
    clear hd c2
    have BO := fun (ww : World) => bt_of ww (S tN) hsz
    rw [L_S] at BO
    generalize S tN = st at *
    have HCT := Lib.hid CT; have HCS := Lib.hid CS; have HC4 := Lib.hid C4; have HBO := Lib.hid BO
    have HWB := Lib.hid bB2
    have hcv0 := HCV.out _ hw0
    have hcv1 := HCV.out _ bB2
    have i1 : (0 : Int) ≤ (b : Int) := by omega
    have i2 : (b : Int) ≤ (b : Int) + 4 := by omega
    have i3 : (b : Int) + 4 ≤ (cap : Int) := by omega
    have wr4 : IntKind.i64.wrap ((b : Int) + 4) = (b : Int) + 4 := by rw [IntKind.wrap_i64]; omega
    generalize cutA A cap b = AS at *
    clear CT CS C4 hA hbS hlS f1 f2 f3 q2 e4 e44 sp hw0 hfo bB bB2 byB BO hsz q3 e3 e2 e1
    go_enter Try.func46, Try.ntmps46
    go_wp2_with fail
    (with_reducible refine HCT.out.mono ?_)
    rintro e w' ⟨rfl, rfl⟩
    go_wp2_with fail
    clear d1 htl
    go_region_with (first
      | (go_at_call 52; refine HCS.out.mono ?_; rintro e w1 ⟨rfl, rfl⟩)
      | (go_at_call 73; refine HC4.out.mono ?_; rintro e w2 ⟨⟨v2, rfl, o2⟩, b2⟩; obtain ⟨A3, c3, rfl, hb3⟩ := o2.bytes; have hcv2 := str_of hb3 c3; have HB2 := Lib.hid (HWB.out.trans (b2.mono HWB.out.size)); have hcv3 := HCV.out _ HB2.out; clear o2 b2 hb3))
    all_goals (
      clear hcv3 hcvB
      obtain ⟨c8, w8, hcv8, bt8, b8, _⟩ := HBO.out w2
      have HBT8 := Lib.hid bt8
      have HB8 := Lib.hid (HB2.out.trans (b8.mono HB2.out.size))
      clear bt8 b8
      go_wp2_with fail
      go_ret3
      exact ⟨⟨_, rfl, HBT8.out⟩, HB8.out⟩)
end Go.Proofs.Ytegipokbbmnahaa
