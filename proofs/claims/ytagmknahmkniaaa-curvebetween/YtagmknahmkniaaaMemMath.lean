/- Layer 11's mathematics: members and their accounts. -/
import Derived.Test.YtagmknahmkniaaaWordMath
import Derived.Test.YtagmknahmkniaaaSeriesMath
namespace MM
open Go
set_option linter.unusedSimpArgs false
structure Ac where
  name : ByteArray
  kind : Int
structure Mem where
  name : ByteArray
  status : Int
  accs : List Ac
def nil : ByteArray := ⟨#[]⟩
def okN (s : ByteArray) : Bool := WM.name s.data.toList
def lt (s t : ByteArray) : Bool := Op.bytesLess s.toList t.toList
def eq (s t : ByteArray) : Bool := s.toList == t.toList
def le (s t : ByteArray) : Bool := lt s t || eq s t
theorem eq_iff {s t : ByteArray} : eq s t = true ↔ s = t := by
  unfold eq
  constructor
  · intro h; exact EM.toList_inj (by simpa using h)
  · rintro rfl; simp
theorem eq_false {s t : ByteArray} : eq s t = false ↔ s ≠ t := by rw [Bool.eq_false_iff, ne_eq, eq_iff]
theorem lt_tri (s t : ByteArray) : lt s t = true ∨ s = t ∨ lt t s = true := by
  rcases OM.bl_tri s.toList t.toList with h | h | h
  · exact .inl h
  · exact .inr (.inl (EM.toList_inj h))
  · exact .inr (.inr h)
theorem lt_irrefl (s : ByteArray) : lt s s = false := OM.bl_irrefl _
theorem lt_trans {s t u : ByteArray} (h1 : lt s t = true) (h2 : lt t u = true) : lt s u = true := OM.bl_trans _ _ _ h1 h2
theorem lt_asymm {s t : ByteArray} (h : lt s t = true) : lt t s = false := OM.bl_asymm h
theorem lt_of_le {s t : ByteArray} (h : le s t = false) : lt t s = true := by
  unfold le at h
  rw [Bool.or_eq_false_iff] at h
  rcases lt_tri s t with g | g | g
  · rw [h.1] at g; cases g
  · rw [eq_iff.2 g] at h; cases h.2
  · exact g
theorem le_of_lt {s t : ByteArray} (h : lt t s = true) : le s t = false := by
  unfold le
  rw [lt_asymm h]
  have : eq s t = false := eq_false.2 (by rintro rfl; rw [lt_irrefl] at h; cases h)
  rw [this]; rfl
theorem gt_eq (s t : ByteArray) : (!Op.bytesLess s.toList t.toList && !(s.toList == t.toList)) = lt t s := by
  have e : (!Op.bytesLess s.toList t.toList && !(s.toList == t.toList)) = !(le s t) := by unfold le lt eq; rw [Bool.not_or]
  rw [e]
  cases h : le s t
  · rw [lt_of_le h]; rfl
  · cases g : lt t s
    · rfl
    · rw [le_of_lt g] at h; cases h
theorem lt_ne {s t : ByteArray} (h : lt s t = true) : eq s t = false ∧ eq t s = false := by
  refine ⟨eq_false.2 ?_, eq_false.2 ?_⟩ <;> (rintro rfl; rw [lt_irrefl] at h; cases h)
theorem ok_le {s : ByteArray} (h : okN s = true) : le s nil = false := by
  apply le_of_lt
  rcases lt_tri nil s with g | g | g
  · exact g
  · subst g; revert h; decide
  · unfold lt at g
    rw [Go.ByteArray.toList_eq nil] at g
    cases e : s.toList <;> simp [nil, e, Op.bytesLess] at g

def kindOk (k : Int) : Bool := decide (1 ≤ k) && decide (k ≤ 3)
def statOk (k : Int) : Bool := decide (1 ≤ k) && decide (k ≤ 4)
def accE : ByteArray → List Ac → Int
  | _, [] => 0
  | p, a :: r => if okN a.name = false then 10 else if le a.name p = true then 12 else if kindOk a.kind = false then 21 else accE a.name r
def memE : ByteArray → List Mem → Int
  | _, [] => 0
  | p, m :: r => if okN m.name = false then 10 else if le m.name p = true then 12 else if statOk m.status = false then 13 else if 16 < m.accs.length then 8 else if accE nil m.accs ≠ 0 then accE nil m.accs else memE m.name r
def checkE (l : List Mem) : Int := if 32 < l.length then 8 else memE nil l
theorem acc_name {p : ByteArray} {a : Ac} {r : List Ac} (h : okN a.name = false) : accE p (a :: r) = 10 := by simp [accE, h]
theorem acc_le {p : ByteArray} {a : Ac} {r : List Ac} (h : okN a.name = true) (h2 : le a.name p = true) : accE p (a :: r) = 12 := by simp [accE, h, h2]
theorem acc_kind {p : ByteArray} {a : Ac} {r : List Ac} (h : okN a.name = true) (h2 : le a.name p = false) (h3 : kindOk a.kind = false) : accE p (a :: r) = 21 := by simp [accE, h, h2, h3]
theorem acc_next {p : ByteArray} {a : Ac} {r : List Ac} (h : okN a.name = true) (h2 : le a.name p = false) (h3 : kindOk a.kind = true) : accE p (a :: r) = accE a.name r := by simp [accE, h, h2, h3]
theorem mem_name {p : ByteArray} {m : Mem} {r : List Mem} (h : okN m.name = false) : memE p (m :: r) = 10 := by simp [memE, h]
theorem mem_le {p : ByteArray} {m : Mem} {r : List Mem} (h : okN m.name = true) (h2 : le m.name p = true) : memE p (m :: r) = 12 := by simp [memE, h, h2]
theorem mem_stat {p : ByteArray} {m : Mem} {r : List Mem} (h : okN m.name = true) (h2 : le m.name p = false) (h3 : statOk m.status = false) : memE p (m :: r) = 13 := by simp [memE, h, h2, h3]
theorem mem_long {p : ByteArray} {m : Mem} {r : List Mem} (h : okN m.name = true) (h2 : le m.name p = false) (h3 : statOk m.status = true) (h4 : 16 < m.accs.length) : memE p (m :: r) = 8 := by simp [memE, h, h2, h3, h4]
theorem mem_accs {p : ByteArray} {m : Mem} {r : List Mem} (h : okN m.name = true) (h2 : le m.name p = false) (h3 : statOk m.status = true) (h4 : ¬ 16 < m.accs.length) (h5 : accE nil m.accs ≠ 0) : memE p (m :: r) = accE nil m.accs := by simp [memE, h, h2, h3, h4, h5]
theorem mem_next {p : ByteArray} {m : Mem} {r : List Mem} (h : okN m.name = true) (h2 : le m.name p = false) (h3 : statOk m.status = true) (h4 : ¬ 16 < m.accs.length) (h5 : accE nil m.accs = 0) : memE p (m :: r) = memE m.name r := by simp [memE, h, h2, h3, h4, h5]
theorem acc_ok {p : ByteArray} {a : Ac} {r : List Ac} (h : accE p (a :: r) = 0) : okN a.name = true ∧ le a.name p = false ∧ kindOk a.kind = true ∧ accE a.name r = 0 := by
  unfold accE at h
  split at h
  · omega
  split at h
  · omega
  split at h
  · omega
  · simp_all
theorem mem_ok {p : ByteArray} {m : Mem} {r : List Mem} (h : memE p (m :: r) = 0) : okN m.name = true ∧ le m.name p = false ∧ statOk m.status = true ∧ ¬ 16 < m.accs.length ∧ accE nil m.accs = 0 ∧ memE m.name r = 0 := by
  unfold memE at h
  split at h
  · omega
  split at h
  · omega
  split at h
  · omega
  split at h
  · omega
  split at h
  · omega
  · simp_all

/-- x ahead of the first that p says yes to, at the end if there is none -/
def ins {α : Type} (p : α → Bool) (x : α) : List α → List α
  | [] => [x]
  | a :: r => if p a = true then x :: a :: r else a :: ins p x r
theorem ins_len {α : Type} (p : α → Bool) (x : α) (l : List α) : (ins p x l).length = l.length + 1 := by
  induction l with
  | nil => rfl
  | cons a r ih => unfold ins; split <;> simp [ih]
theorem ins_mem {α : Type} (p : α → Bool) (x y : α) (l : List α) : y ∈ ins p x l ↔ y = x ∨ y ∈ l := by
  induction l with
  | nil => simp [ins]
  | cons a r ih =>
    unfold ins
    split
    · simp
    · simp only [List.mem_cons, ih]
      constructor
      · rintro (h | h | h)
        · exact .inr (.inl h)
        · exact .inl h
        · exact .inr (.inr h)
      · rintro (h | h | h)
        · exact .inr (.inl h)
        · exact .inl h
        · exact .inr (.inr h)
/-- where: the first that p says yes to, else the end -/
def at_ {α : Type} (p : α → Bool) (l : List α) : Nat := (l.findIdx? p).getD l.length
theorem at_le {α : Type} (p : α → Bool) (l : List α) : at_ p l ≤ l.length := by
  unfold at_
  cases h : l.findIdx? p with
  | none => simp
  | some i =>
    have := (List.findIdx?_eq_some_iff_getElem.1 h).1
    simp; omega
theorem ins_at {α : Type} (p : α → Bool) (x : α) (l : List α) : ins p x l = l.take (at_ p l) ++ x :: l.drop (at_ p l) := by
  induction l with
  | nil => simp [ins, at_]
  | cons a r ih =>
    unfold ins
    cases h : p a
    · have e : at_ p (a :: r) = at_ p r + 1 := by
        unfold at_
        rw [List.findIdx?_cons, h]
        cases r.findIdx? p <;> simp
      rw [e]
      simp [ih]
    · have e : at_ p (a :: r) = 0 := by
        unfold at_
        rw [List.findIdx?_cons, h]
        simp
      rw [e]
      simp
theorem find_some {α : Type} {p : α → Bool} {l : List α} {k : Nat} (hk : k < l.length) (hj : ∀ j (h : j < l.length), j < k → p l[j] = false) (h : p l[k] = true) : l.findIdx? p = some k := by
  rw [List.findIdx?_eq_some_iff_getElem]
  refine ⟨hk, h, fun j hji => ?_⟩
  rw [hj j (by omega) hji]; decide
theorem find_none {α : Type} {p : α → Bool} {l : List α} (h : ∀ j (h : j < l.length), p l[j] = false) : l.findIdx? p = none := by
  rw [List.findIdx?_eq_none_iff]
  intro x hx
  obtain ⟨j, hj, rfl⟩ := List.mem_iff_getElem.1 hx
  exact h j hj

def pl (l : List Mem) (n : ByteArray) : Option Nat := l.findIdx? (fun m => eq m.name n)
def pa (l : List Ac) (n : ByteArray) : Option Nat := l.findIdx? (fun a => eq a.name n)
theorem pl_some {l : List Mem} {n : ByteArray} {i : Nat} (h : pl l n = some i) : ∃ hi : i < l.length, l[i].name = n := by
  obtain ⟨h1, h2, _⟩ := List.findIdx?_eq_some_iff_getElem.1 h
  exact ⟨h1, eq_iff.1 h2⟩
theorem pa_some {l : List Ac} {n : ByteArray} {i : Nat} (h : pa l n = some i) : ∃ hi : i < l.length, l[i].name = n := by
  obtain ⟨h1, h2, _⟩ := List.findIdx?_eq_some_iff_getElem.1 h
  exact ⟨h1, eq_iff.1 h2⟩
theorem pl_none {l : List Mem} {n : ByteArray} (h : pl l n = none) : ∀ m ∈ l, eq m.name n = false := List.findIdx?_eq_none_iff.1 h
theorem pa_none {l : List Ac} {n : ByteArray} (h : pa l n = none) : ∀ a ∈ l, eq a.name n = false := List.findIdx?_eq_none_iff.1 h

def insM (n : ByteArray) (l : List Mem) : List Mem := ins (fun m => lt n m.name) ⟨n, 1, []⟩ l
def insA (a : Ac) (l : List Ac) : List Ac := ins (fun b => lt a.name b.name) a l
def addE (l : List Mem) (n : ByteArray) : Int :=
  if checkE l ≠ 0 then checkE l else if okN n = false then 10 else if (pl l n).isSome = true then 12 else if 32 ≤ l.length then 8 else 0
def addL (l : List Mem) (n : ByteArray) : List Mem := if addE l n = 0 then insM n l else []
def mAt (l : List Mem) (i : Nat) : Mem := l.getD i ⟨nil, 0, []⟩
theorem mAt_get {l : List Mem} {i : Nat} (h : i < l.length) : mAt l i = l[i] := by simp [mAt, List.getD, h]
/-- the error of one more account among a member's -/
def opE (l : List Ac) (n : ByteArray) (kind : Int) : Int :=
  if okN n = false then 10 else if kindOk kind = false then 21 else if (pa l n).isSome = true then 12 else if 16 ≤ l.length then 8 else 0
def openE (l : List Mem) (n a : ByteArray) (kind : Int) : Int :=
  if checkE l ≠ 0 then checkE l else match pl l n with
    | none => 20
    | some i => if (mAt l i).status ≠ 1 then 20 else opE (mAt l i).accs a kind
def openL (l : List Mem) (n a : ByteArray) (kind : Int) : List Mem :=
  if openE l n a kind = 0 then match pl l n with
    | none => []
    | some i => l.set i { mAt l i with accs := insA ⟨a, kind⟩ (mAt l i).accs }
  else []
def leads (f t : Int) : Bool := if f = 1 then (t == 2 || t == 3 || t == 4) else if f = 2 then (t == 1 || t == 3) else false
def statE (l : List Mem) (n : ByteArray) (s : Int) : Int :=
  if checkE l ≠ 0 then checkE l else match pl l n with
    | none => 20
    | some i => if leads (mAt l i).status s = true then 0 else 13
def statL (l : List Mem) (n : ByteArray) (s : Int) : List Mem :=
  if statE l n s = 0 then match pl l n with
    | none => []
    | some i => l.set i { mAt l i with status := s }
  else []
def allows (s act : Int) : Bool := if s = 1 then true else if s = 2 then (act != 1 && act != 3) else if s = 3 then (decide (4 ≤ act) && decide (act ≤ 8)) else false
def mayE (l : List Mem) (n a : ByteArray) (act : Int) : Int :=
  match pl l n with
    | none => 20
    | some i => match pa (mAt l i).accs a with
      | none => 21
      | some _ => if allows (mAt l i).status act = true then 0 else 13
def accsL (l : List Mem) : List (ByteArray × ByteArray) := l.flatMap fun m => m.accs.map fun a => (m.name, a.name)

theorem acc_asc : ∀ {p : ByteArray} {l : List Ac}, accE p l = 0 → (∀ a ∈ l, lt p a.name = true) ∧ l.Pairwise (fun a b => lt a.name b.name = true) := by
  intro p l
  induction l generalizing p with
  | nil => intro _; simp
  | cons a r ih =>
    intro h
    obtain ⟨_, h2, _, h4⟩ := acc_ok h
    obtain ⟨g1, g2⟩ := ih h4
    have hp := lt_of_le h2
    refine ⟨?_, List.pairwise_cons.2 ⟨g1, g2⟩⟩
    intro b hb
    rcases List.mem_cons.1 hb with rfl | hb
    · exact hp
    · exact lt_trans hp (g1 b hb)
theorem mem_asc : ∀ {p : ByteArray} {l : List Mem}, memE p l = 0 → (∀ a ∈ l, lt p a.name = true) ∧ l.Pairwise (fun a b => lt a.name b.name = true) := by
  intro p l
  induction l generalizing p with
  | nil => intro _; simp
  | cons a r ih =>
    intro h
    obtain ⟨_, h2, _, _, _, h4⟩ := mem_ok h
    obtain ⟨g1, g2⟩ := ih h4
    have hp := lt_of_le h2
    refine ⟨?_, List.pairwise_cons.2 ⟨g1, g2⟩⟩
    intro b hb
    rcases List.mem_cons.1 hb with rfl | hb
    · exact hp
    · exact lt_trans hp (g1 b hb)
/-- in a list that may be, a member is found by its name -/
theorem find_mem {p : ByteArray} {l : List Mem} (h : memE p l = 0) {m : Mem} (hm : m ∈ l) : ∃ i, pl l m.name = some i ∧ ∃ hi : i < l.length, l[i] = m := by
  obtain ⟨i, hi, rfl⟩ := List.mem_iff_getElem.1 hm
  refine ⟨i, find_some hi ?_ (eq_iff.2 rfl), hi, rfl⟩
  intro j hj hji
  exact (lt_ne (List.pairwise_iff_getElem.1 (mem_asc h).2 j i hj hi hji)).1
theorem acc_ins {a : Ac} : ∀ {p : ByteArray} {l : List Ac}, accE p l = 0 → okN a.name = true → le a.name p = false → kindOk a.kind = true → (∀ b ∈ l, eq b.name a.name = false) → accE p (insA a l) = 0 := by
  intro p l
  induction l generalizing p with
  | nil => intro _ h1 h2 h3 _; exact acc_next h1 h2 h3
  | cons b r ih =>
    intro h h1 h2 h3 h4
    obtain ⟨g1, g2, g3, g4⟩ := acc_ok h
    unfold insA ins
    cases e : lt a.name b.name
    · rw [if_neg (by simp), acc_next g1 g2 g3]
      refine ih g4 h1 ?_ h3 (fun c hc => h4 c (List.mem_cons_of_mem _ hc))
      apply le_of_lt
      rcases lt_tri a.name b.name with g | g | g
      · rw [e] at g; cases g
      · have := h4 b (by simp)
        rw [← g] at this
        exact absurd rfl (eq_false.1 this)
      · exact g
    · rw [if_pos rfl, acc_next h1 h2 h3, acc_next g1 (le_of_lt e) g3]
      exact g4
theorem mem_ins {n : ByteArray} : ∀ {p : ByteArray} {l : List Mem}, memE p l = 0 → okN n = true → le n p = false → (∀ b ∈ l, eq b.name n = false) → memE p (insM n l) = 0 := by
  intro p l
  induction l generalizing p with
  | nil => intro _ h1 h2 _; exact mem_next (m := ⟨n, 1, []⟩) h1 h2 rfl (by simp) rfl
  | cons b r ih =>
    intro h h1 h2 h4
    obtain ⟨g1, g2, g3, g4, g5, g6⟩ := mem_ok h
    unfold insM ins
    cases e : lt n b.name
    · rw [if_neg (by simp), mem_next g1 g2 g3 g4 g5]
      refine ih g6 h1 ?_ (fun c hc => h4 c (List.mem_cons_of_mem _ hc))
      apply le_of_lt
      rcases lt_tri n b.name with g | g | g
      · rw [e] at g; cases g
      · have := h4 b (by simp)
        rw [← g] at this
        exact absurd rfl (eq_false.1 this)
      · exact g
    · rw [if_pos rfl, mem_next (m := ⟨n, 1, []⟩) h1 h2 rfl (by simp) rfl, mem_next g1 (le_of_lt e) g3 g4 g5]
      exact g6
theorem mem_set {m' : Mem} : ∀ {p : ByteArray} {l : List Mem} {i : Nat} (hi : i < l.length), memE p l = 0 → m'.name = l[i].name → statOk m'.status = true → ¬ 16 < m'.accs.length → accE nil m'.accs = 0 → memE p (l.set i m') = 0 := by
  intro p l
  induction l generalizing p with
  | nil => intro i hi; simp at hi
  | cons b r ih =>
    intro i hi h hn h1 h2 h3
    obtain ⟨g1, g2, g3, g4, g5, g6⟩ := mem_ok h
    cases i with
    | zero =>
      simp only [List.getElem_cons_zero] at hn
      rw [List.set_cons_zero, mem_next (by rw [hn]; exact g1) (by rw [hn]; exact g2) h1 h2 h3, hn]
      exact g6
    | succ i =>
      rw [List.set_cons_succ, mem_next g1 g2 g3 g4 g5]
      exact ih (i := i) (by simpa using hi) g6 (by simpa using hn) h1 h2 h3
theorem mem_at : ∀ {p : ByteArray} {l : List Mem} {i : Nat} (hi : i < l.length), memE p l = 0 → okN l[i].name = true ∧ statOk l[i].status = true ∧ ¬ 16 < l[i].accs.length ∧ accE nil l[i].accs = 0 := by
  intro p l
  induction l generalizing p with
  | nil => intro i hi; simp at hi
  | cons b r ih =>
    intro i hi h
    obtain ⟨g1, g2, g3, g4, g5, g6⟩ := mem_ok h
    cases i with
    | zero => exact ⟨g1, g3, g4, g5⟩
    | succ i => exact ih (i := i) (by simpa using hi) g6
theorem check_mem {l : List Mem} (h : checkE l = 0) : l.length ≤ 32 ∧ memE nil l = 0 := by
  unfold checkE at h
  split at h
  · omega
  · exact ⟨by omega, h⟩
theorem mem_check {l : List Mem} (h1 : l.length ≤ 32) (h : memE nil l = 0) : checkE l = 0 := by
  unfold checkE
  rw [if_neg (by omega)]; exact h
theorem add_ok {l : List Mem} {n : ByteArray} (h : addE l n = 0) : checkE l = 0 ∧ okN n = true ∧ pl l n = none ∧ l.length < 32 := by
  unfold addE at h
  split at h
  · omega
  split at h
  · omega
  split at h
  · omega
  split at h
  · omega
  · simp_all
theorem add_check {l : List Mem} {n : ByteArray} (h : addE l n = 0) : checkE (addL l n) = 0 := by
  obtain ⟨h1, h2, h3, h4⟩ := add_ok h
  unfold addL
  rw [if_pos h]
  refine mem_check (by unfold insM; rw [ins_len]; omega) (mem_ins (check_mem h1).2 h2 (ok_le h2) (pl_none h3))
theorem op_ok {l : List Ac} {n : ByteArray} {k : Int} (h : opE l n k = 0) : okN n = true ∧ kindOk k = true ∧ pa l n = none ∧ l.length < 16 := by
  unfold opE at h
  split at h
  · omega
  split at h
  · omega
  split at h
  · omega
  split at h
  · omega
  · simp_all
theorem open_ok {l : List Mem} {n a : ByteArray} {k : Int} (h : openE l n a k = 0) : checkE l = 0 ∧ ∃ i, pl l n = some i ∧ i < l.length ∧ (mAt l i).status = 1 ∧ opE (mAt l i).accs a k = 0 := by
  unfold openE at h
  split at h
  · omega
  rename_i hc
  split at h
  · omega
  rename_i i hi
  split at h
  · omega
  · exact ⟨by simpa using hc, i, hi, (pl_some hi).1, by simp_all, h⟩
theorem open_list {l : List Mem} {n a : ByteArray} {k : Int} {i : Nat} (h : openE l n a k = 0) (hi : pl l n = some i) : openL l n a k = l.set i { mAt l i with accs := insA ⟨a, k⟩ (mAt l i).accs } := by
  unfold openL
  rw [if_pos h, hi]
theorem open_check {l : List Mem} {n a : ByteArray} {k : Int} (h : openE l n a k = 0) : checkE (openL l n a k) = 0 := by
  obtain ⟨h1, i, h2, h3, h4, h5⟩ := open_ok h
  obtain ⟨h6, h7, h8, h9⟩ := op_ok h5
  obtain ⟨c1, c2⟩ := check_mem h1
  obtain ⟨m1, m2, m3, m4⟩ := mem_at h3 c2
  rw [open_list h h2]
  rw [mAt_get h3] at *
  exact mem_check (by simpa using c1) (mem_set h3 c2 rfl m2 (by show ¬ 16 < (insA _ _).length; unfold insA; rw [ins_len]; omega) (acc_ins m4 h6 (ok_le h6) h7 (pa_none h8)))
theorem stat_ok {l : List Mem} {n : ByteArray} {s : Int} (h : statE l n s = 0) : checkE l = 0 ∧ ∃ i, pl l n = some i ∧ i < l.length ∧ leads (mAt l i).status s = true := by
  unfold statE at h
  split at h
  · omega
  rename_i hc
  split at h
  · omega
  rename_i i hi
  split at h
  · rename_i hl
    exact ⟨by simpa using hc, i, hi, (pl_some hi).1, hl⟩
  · omega
theorem stat_list {l : List Mem} {n : ByteArray} {s : Int} {i : Nat} (h : statE l n s = 0) (hi : pl l n = some i) : statL l n s = l.set i { mAt l i with status := s } := by
  unfold statL
  rw [if_pos h, hi]
theorem leads_ok {f t : Int} (h : leads f t = true) : statOk t = true ∧ f < 3 := by
  unfold leads at h
  split at h
  · simp only [Bool.or_eq_true, beq_iff_eq] at h
    unfold statOk
    simp only [Bool.and_eq_true, decide_eq_true_eq]
    omega
  split at h
  · simp only [Bool.or_eq_true, beq_iff_eq] at h
    unfold statOk
    simp only [Bool.and_eq_true, decide_eq_true_eq]
    omega
  · cases h
theorem stat_check {l : List Mem} {n : ByteArray} {s : Int} (h : statE l n s = 0) : checkE (statL l n s) = 0 := by
  obtain ⟨h1, i, h2, h3, h4⟩ := stat_ok h
  obtain ⟨c1, c2⟩ := check_mem h1
  obtain ⟨m1, m2, m3, m4⟩ := mem_at h3 c2
  rw [stat_list h h2]
  rw [mAt_get h3] at *
  exact mem_check (by simpa using c1) (mem_set h3 c2 rfl (leads_ok h4).1 m3 m4)
/-- what a turn makes of a list, and what stays -/
def Kept (l l' : List Mem) (n : ByteArray) : Prop := checkE l' = 0 ∧ ∀ k (hk : k < l.length), ∃ i, pl l' l[k].name = some i ∧ ∃ hi : i < l'.length, (l'[i] = l[k] ∨ (l[k].name = n ∧ (3 ≤ l[k].status → l'[i].status = l[k].status) ∧ l[k].accs.length ≤ l'[i].accs.length))
theorem kept_add {l : List Mem} {n : ByteArray} (h : addE l n = 0) : Kept l (addL l n) n := by
  have hc := add_check h
  refine ⟨hc, fun k hk => ?_⟩
  have hm : l[k] ∈ addL l n := by
    unfold addL; rw [if_pos h]
    exact (ins_mem _ _ _ _).2 (.inr (List.getElem_mem hk))
  obtain ⟨i, h1, hi, h2⟩ := find_mem (check_mem hc).2 hm
  exact ⟨i, h1, hi, .inl h2⟩
theorem kept_set {l : List Mem} {n : ByteArray} {i : Nat} {m' : Mem} (hi : i < l.length) (hp : pl l n = some i) (hn : m'.name = l[i].name) (hs : 3 ≤ l[i].status → m'.status = l[i].status) (ha : l[i].accs.length ≤ m'.accs.length) (hc : checkE (l.set i m') = 0) : Kept l (l.set i m') n := by
  refine ⟨hc, fun k hk => ?_⟩
  by_cases e : k = i
  · subst e
    have hm : m' ∈ l.set k m' := List.mem_iff_getElem.2 ⟨k, by simpa using hk, by simp⟩
    obtain ⟨i', h1, hi', h2⟩ := find_mem (check_mem hc).2 hm
    rw [hn] at h1
    exact ⟨i', h1, hi', .inr ⟨(pl_some hp).2, by rw [h2]; exact hs, by rw [h2]; exact ha⟩⟩
  · have hm : l[k] ∈ l.set i m' := List.mem_iff_getElem.2 ⟨k, by simpa using hk, by rw [List.getElem_set]; rw [if_neg (fun h => e h.symm)]⟩
    obtain ⟨i', h1, hi', h2⟩ := find_mem (check_mem hc).2 hm
    exact ⟨i', h1, hi', .inl h2⟩
theorem kept_open {l : List Mem} {n a : ByteArray} {k : Int} (h : openE l n a k = 0) : Kept l (openL l n a k) n := by
  have hc := open_check h
  obtain ⟨h1, i, h2, h3, h4, h5⟩ := open_ok h
  rw [open_list h h2] at hc ⊢
  rw [mAt_get h3] at *
  exact kept_set h3 h2 rfl (fun _ => rfl) (by show _ ≤ (insA _ _).length; unfold insA; rw [ins_len]; omega) hc
theorem kept_stat {l : List Mem} {n : ByteArray} {s : Int} (h : statE l n s = 0) : Kept l (statL l n s) n := by
  have hc := stat_check h
  obtain ⟨h1, i, h2, h3, h4⟩ := stat_ok h
  rw [stat_list h h2] at hc ⊢
  rw [mAt_get h3] at *
  exact kept_set h3 h2 rfl (fun g => by have := (leads_ok h4).2; omega) (Nat.le_refl _) hc
end MM
namespace MM
theorem mem_one (p : ByteArray) (m : Mem) (r : List Mem) : memE p (m :: r) = if memE p [m] ≠ 0 then memE p [m] else memE m.name r := by
  by_cases h1 : okN m.name = false
  · rw [mem_name h1, mem_name h1]; rfl
  have h1' : okN m.name = true := by simpa using h1
  by_cases h2 : le m.name p = true
  · rw [mem_le h1' h2, mem_le h1' h2]; rfl
  have h2' : le m.name p = false := by simpa using h2
  by_cases h3 : statOk m.status = false
  · rw [mem_stat h1' h2' h3, mem_stat h1' h2' h3]; rfl
  have h3' : statOk m.status = true := by simpa using h3
  by_cases h4 : 16 < m.accs.length
  · rw [mem_long h1' h2' h3' h4, mem_long h1' h2' h3' h4]; rfl
  by_cases h5 : accE nil m.accs = 0
  · rw [mem_next h1' h2' h3' h4 h5, mem_next h1' h2' h3' h4 h5]; rfl
  · rw [mem_accs h1' h2' h3' h4 h5, mem_accs h1' h2' h3' h4 h5, if_pos h5]
theorem one_accs {p : ByteArray} {m : Mem} (h : okN m.name = true) (h2 : le m.name p = false) (h3 : statOk m.status = true) (h4 : ¬ 16 < m.accs.length) : memE p [m] = accE nil m.accs := by
  by_cases h5 : accE nil m.accs = 0
  · rw [mem_next h h2 h3 h4 h5, h5]; rfl
  · rw [mem_accs h h2 h3 h4 h5]
end MM
