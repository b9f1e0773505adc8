/-
  Pages as plain data: entries, changes, what a page is behind its changes, when it is right.
-/
import Derived.Test.YtcflepnckjappaaGreatOwn
import Derived.Laws.Cover1
namespace Go.Proofs.YtcflepnckjappaaGreat
open Go.RowKit

/-- The order of texts. -/
def ltK (a b : ByteArray) : Bool := Op.bytesLess a.toList b.toList
theorem bl_irr : ∀ a : List UInt8, Op.bytesLess a a = false
  | [] => rfl
  | c :: r => by
    have e1 : Op.bytesLess (c :: r) (c :: r) = (decide (c < c) || (c == c && Op.bytesLess r r)) := rfl
    rw [e1, bl_irr r]
    simp
theorem bl_trans : ∀ a b c : List UInt8, Op.bytesLess a b = true → Op.bytesLess b c = true → Op.bytesLess a c = true
  | [], [], _, h, _ => by simp [Op.bytesLess] at h
  | [], _ :: _, [], _, h => by simp [Op.bytesLess] at h
  | [], _ :: _, _ :: _, _, _ => by simp [Op.bytesLess]
  | _ :: _, [], _, h, _ => by simp [Op.bytesLess] at h
  | _ :: _, _ :: _, [], _, h => by simp [Op.bytesLess] at h
  | x :: a, y :: b, z :: c, h, g => by
    have e1 : Op.bytesLess (x :: a) (y :: b) = (decide (x < y) || (x == y && Op.bytesLess a b)) := rfl
    have e2 : Op.bytesLess (y :: b) (z :: c) = (decide (y < z) || (y == z && Op.bytesLess b c)) := rfl
    have e3 : Op.bytesLess (x :: a) (z :: c) = (decide (x < z) || (x == z && Op.bytesLess a c)) := rfl
    rw [e1] at h
    rw [e2] at g
    rw [e3]
    simp only [Bool.or_eq_true, decide_eq_true_eq, Bool.and_eq_true, beq_iff_eq] at h g ⊢
    rcases h with h | ⟨rfl, h⟩ <;> rcases g with g | ⟨rfl, g⟩
    · exact .inl (UInt8.lt_trans h g)
    · exact .inl h
    · exact .inl g
    · exact .inr ⟨rfl, bl_trans a b c h g⟩
theorem bl_turn : ∀ a b : List UInt8, Op.bytesLess b a = (!Op.bytesLess a b && !(a == b))
  | [], [] => by simp [Op.bytesLess]
  | [], _ :: _ => by simp [Op.bytesLess]
  | _ :: _, [] => by simp [Op.bytesLess]
  | x :: a, y :: b => by
    have e1 : Op.bytesLess (x :: a) (y :: b) = (decide (x < y) || (x == y && Op.bytesLess a b)) := rfl
    have e2 : Op.bytesLess (y :: b) (x :: a) = (decide (y < x) || (y == x && Op.bytesLess b a)) := rfl
    have ih := bl_turn a b
    by_cases h : x = y
    · subst h
      rw [e1, e2, ih]
      simp
    · have h' : ¬ y = x := fun e => h e.symm
      have hb : (x == y) = false := by simpa using h
      have hb' : (y == x) = false := by simpa using h'
      rw [e1, e2, hb, hb']
      have : (x :: a == y :: b) = false := by simp [h]
      rw [this]
      by_cases hl : x < y
      · have : ¬ y < x := fun g => absurd (UInt8.lt_trans hl g) (UInt8.lt_irrefl _)
        simp [hl, this]
      · have : y < x := by
          rw [UInt8.lt_iff_toNat_lt] at hl ⊢
          have : x.toNat ≠ y.toNat := fun e => h (UInt8.toNat_inj.1 e)
          omega
        simp [hl, this]
theorem toList_inj {a b : ByteArray} (h : a.toList = b.toList) : a = b := by
  rw [ByteArray.toList_eq, ByteArray.toList_eq] at h
  cases a; cases b
  congr
  exact Array.ext' h
theorem ltK_irr (a : ByteArray) : ltK a a = false := bl_irr _
theorem ltK_trans {a b c : ByteArray} (h : ltK a b = true) (g : ltK b c = true) : ltK a c = true := bl_trans _ _ _ h g
theorem ltK_eq {a b : ByteArray} (h : ltK a b = false) (g : ltK b a = false) : a = b := by
  unfold ltK at h g
  rw [bl_turn, h] at g
  exact toList_inj (by simpa using g)

/-- An entry. -/
structure EntD where
  k : ByteArray
  v : ByteArray
/-- A change. -/
structure DelD where
  kind : Int
  k : ByteArray
  v : ByteArray
  to : Int
/-- The first place whose key is not below one. -/
def pos : List EntD → ByteArray → Nat
  | [], _ => 0
  | e :: r, k => if ltK e.k k then pos r k + 1 else 0
/-- Keys rise. -/
def Rise (es : List EntD) : Prop := es.Pairwise (fun a b => ltK a.k b.k = true)
theorem Rise.lt {es : List EntD} (h : Rise es) {i j : Nat} (hj : j < es.length) (hij : i < j) : ltK (es[i]'(by omega)).k es[j].k = true := List.pairwise_iff_getElem.1 h i j _ hj hij
theorem Rise.ge {es : List EntD} (h : Rise es) {k : ByteArray} {i j : Nat} (hj : j < es.length) (hij : i ≤ j) (hi : ltK (es[i]'(by omega)).k k = false) : ltK es[j].k k = false := by
  rcases Nat.lt_or_eq_of_le hij with hlt | rfl
  · cases g : ltK es[j].k k
    · rfl
    · have := ltK_trans (h.lt hj hlt) g
      rw [hi] at this
      exact this.symm
  · exact hi
theorem Rise.le {es : List EntD} (h : Rise es) {k : ByteArray} {i j : Nat} (hj : j < es.length) (hij : i ≤ j) (hl : ltK es[j].k k = true) : ltK (es[i]'(by omega)).k k = true := by
  rcases Nat.lt_or_eq_of_le hij with hlt | rfl
  · exact ltK_trans (h.lt hj hlt) hl
  · exact hl
/-- The key is there. -/
def found (es : List EntD) (k : ByteArray) : Bool := match es[pos es k]? with
  | some e => e.k.toList == k.toList
  | none => false
/-- What a change makes of entries. -/
def stepE (es : List EntD) (d : DelD) : List EntD :=
  if d.kind = 3 then es.take (pos es d.k) else es.take (pos es d.k) ++ (if d.kind = 2 then [] else [⟨d.k, d.v⟩]) ++ es.drop (pos es d.k + if found es d.k then 1 else 0)
def keyK (k : ByteArray) : Bool := decide (1 ≤ k.size ∧ k.size ≤ 40)
def valK (v : ByteArray) : Bool := decide (v.size ≤ 100)
def idK (n : Int) : Bool := decide (0 ≤ n ∧ n ≤ 1000)
/-- From Low on, below a bound. -/
def inK (lo hi k : ByteArray) : Bool := !ltK k lo && (hi.toList.isEmpty || ltK k hi)
theorem takeG_snoc {α : Type} (l : List α) (i : Nat) (h : i < l.length) : l.take (i + 1) = l.take i ++ [l[i]] := by
  rw [List.take_add_one, List.getElem?_eq_getElem h]
  rfl
end Go.Proofs.YtcflepnckjappaaGreat
