/-
  Pages as plain data: entries, changes, what a page is behind its changes, when it is right.
-/
import Derived.Test.YtkggpapmhopaeaaOwn
import Derived.Laws.Cover1
namespace Go.Proofs.Ytkggpapmhopaeaa
open Go.RowKit

/-- The order of texts. -/
def ltK (a b : ByteArray) : Bool := Op.bytesLess a.toList b.toList
theorem bl_irr : ∀ a : List UInt8, Op.bytesLess a a = false
  | [] => rfl
  | c :: r => by
    have e1 : Op.bytesLess (c :: r) (c :: r) = (decide (c < c) || (c == c && Op.bytesLess r r)) := rfl
    rw [e1, bl_irr r]
    simp
theorem bl_trans : ∀ a b c : List UInt8, Op.bytesLess a b = true → Op.bytesLess b c = true → Op.bytesLess a c = true
  | [], [], _, h, _ => by simp [Op.bytesLess] at h
  | [], _ :: _, [], _, h => by simp [Op.bytesLess] at h
  | [], _ :: _, _ :: _, _, _ => by simp [Op.bytesLess]
  | _ :: _, [], _, h, _ => by simp [Op.bytesLess] at h
  | _ :: _, _ :: _, [], _, h => by simp [Op.bytesLess] at h
  | x :: a, y :: b, z :: c, h, g => by
    have e1 : Op.bytesLess (x :: a) (y :: b) = (decide (x < y) || (x == y && Op.bytesLess a b)) := rfl
    have e2 : Op.bytesLess (y :: b) (z :: c) = (decide (y < z) || (y == z && Op.bytesLess b c)) := rfl
    have e3 : Op.bytesLess (x :: a) (z :: c) = (decide (x < z) || (x == z && Op.bytesLess a c)) := rfl
    rw [e1] at h
    rw [e2] at g
    rw [e3]
    simp only [Bool.or_eq_true, decide_eq_true_eq, Bool.and_eq_true, beq_iff_eq] at h g ⊢
    rcases h with h | ⟨rfl, h⟩ <;> rcases g with g | ⟨rfl, g⟩
    · exact .inl (UInt8.lt_trans h g)
    · exact .inl h
    · exact .inl g
    · exact .inr ⟨rfl, bl_trans a b c h g⟩
theorem bl_turn : ∀ a b : List UInt8, Op.bytesLess b a = (!Op.bytesLess a b && !(a == b))
  | [], [] => by simp [Op.bytesLess]
  | [], _ :: _ => by simp [Op.bytesLess]
  | _ :: _, [] => by simp [Op.bytesLess]
  | x :: a, y :: b => by
    have e1 : Op.bytesLess (x :: a) (y :: b) = (decide (x < y) || (x == y && Op.bytesLess a b)) := rfl
    have e2 : Op.bytesLess (y :: b) (x :: a) = (decide (y < x) || (y == x && Op.bytesLess b a)) := rfl
    have ih := bl_turn a b
    by_cases h : x = y
    · subst h
      rw [e1, e2, ih]
      simp
    · have h' : ¬ y = x := fun e => h e.symm
      have hb : (x == y) = false := by simpa using h
      have hb' : (y == x) = false := by simpa using h'
      rw [e1, e2, hb, hb']
      have : (x :: a == y :: b) = false := by simp [h]
      rw [this]
      by_cases hl : x < y
      · have : ¬ y < x := fun g => absurd (UInt8.lt_trans hl g) (UInt8.lt_irrefl _)
        simp [hl, this]
      · have : y < x := by
          rw [UInt8.lt_iff_toNat_lt] at hl ⊢
          have : x.toNat ≠ y.toNat := fun e => h (UInt8.toNat_inj.1 e)
          omega
        simp [hl, this]
theorem toList_inj {a b : ByteArray} (h : a.toList = b.toList) : a = b := by
  rw [ByteArray.toList_eq, ByteArray.toList_eq] at h
  cases a; cases b
  congr
  exact Array.ext' h
theorem ltK_irr (a : ByteArray) : ltK a a = false := bl_irr _
theorem ltK_trans {a b c : ByteArray} (h : ltK a b = true) (g : ltK b c = true) : ltK a c = true := bl_trans _ _ _ h g
theorem ltK_eq {a b : ByteArray} (h : ltK a b = false) (g : ltK b a = false) : a = b := by
  unfold ltK at h g
  rw [bl_turn, h] at g
  exact toList_inj (by simpa using g)
theorem ltK_asymm {a b : ByteArray} (h : ltK a b = true) : ltK b a = false := by
  cases g : ltK b a
  · rfl
  · have := ltK_trans h g
    rw [ltK_irr] at this
    exact this.symm

/-- An entry. -/
structure EntD where
  k : ByteArray
  v : ByteArray
/-- A change. -/
structure DelD where
  kind : Int
  k : ByteArray
  v : ByteArray
  to : Int
/-- A page as data. -/
structure PageD where
  lo : ByteArray
  hi : ByteArray
  r : Int
  es : List EntD
  ds : List DelD
/-- The first place whose key is not below one. -/
def pos : List EntD → ByteArray → Nat
  | [], _ => 0
  | e :: r, k => if ltK e.k k then pos r k + 1 else 0
theorem pos_le : ∀ (es : List EntD) (k : ByteArray), pos es k ≤ es.length
  | [], _ => Nat.le_refl _
  | e :: r, k => by
    unfold pos
    have := pos_le r k
    split <;> simp <;> omega
theorem pos_lt : ∀ (es : List EntD) (k : ByteArray) (i : Nat) (hi : i < es.length), i < pos es k → ltK es[i].k k = true
  | [], _, _, hi, _ => by simp at hi
  | e :: r, k, i, hi, h => by
    unfold pos at h
    split at h
    · rename_i hl
      cases i with
      | zero => exact hl
      | succ i => exact pos_lt r k i (by simpa using hi) (by omega)
    · omega
theorem pos_at : ∀ (es : List EntD) (k : ByteArray) (hi : pos es k < es.length), ltK (es[pos es k]'hi).k k = false
  | [], _, hi => by simp at hi
  | e :: r, k, hi => by
    by_cases hl : ltK e.k k = true
    · have e1 : pos (e :: r) k = pos r k + 1 := by rw [pos, if_pos hl]
      simp only [e1, List.getElem_cons_succ]
      exact pos_at r k (by rw [e1] at hi; simpa using hi)
    · have e1 : pos (e :: r) k = 0 := by rw [pos, if_neg hl]
      simp only [e1, List.getElem_cons_zero]
      simpa using hl
theorem pos_uni : ∀ (es : List EntD) (k : ByteArray) (p : Nat) (_ : p ≤ es.length), (∀ i (hi : i < es.length), i < p → ltK es[i].k k = true) → (∀ hi : p < es.length, ltK (es[p]'hi).k k = false) → p = pos es k
  | [], _, p, hp, _, _ => by simpa [pos] using hp
  | e :: r, k, p, hp, h1, h2 => by
    cases p with
    | zero =>
      have := h2 (by simp)
      rw [pos, if_neg (by simpa using this)]
    | succ p =>
      have := h1 0 (by simp) (by omega)
      rw [pos, if_pos (by simpa using this)]
      congr 1
      exact pos_uni r k p (by simpa using hp) (fun i hi hip => h1 (i + 1) (by simpa using hi) (by omega)) (fun hi => h2 (by simpa using hi))
/-- Keys rise. -/
def Rise (es : List EntD) : Prop := es.Pairwise (fun a b => ltK a.k b.k = true)
theorem Rise.lt {es : List EntD} (h : Rise es) {i j : Nat} (hj : j < es.length) (hij : i < j) : ltK (es[i]'(by omega)).k es[j].k = true := List.pairwise_iff_getElem.1 h i j _ hj hij
theorem Rise.ge {es : List EntD} (h : Rise es) {k : ByteArray} {i j : Nat} (hj : j < es.length) (hij : i ≤ j) (hi : ltK (es[i]'(by omega)).k k = false) : ltK es[j].k k = false := by
  rcases Nat.lt_or_eq_of_le hij with hlt | rfl
  · cases g : ltK es[j].k k
    · rfl
    · have := ltK_trans (h.lt hj hlt) g
      rw [hi] at this
      exact this.symm
  · exact hi
theorem Rise.le {es : List EntD} (h : Rise es) {k : ByteArray} {i j : Nat} (hj : j < es.length) (hij : i ≤ j) (hl : ltK es[j].k k = true) : ltK (es[i]'(by omega)).k k = true := by
  rcases Nat.lt_or_eq_of_le hij with hlt | rfl
  · exact ltK_trans (h.lt hj hlt) hl
  · exact hl
/-- The key is there. -/
def found (es : List EntD) (k : ByteArray) : Bool := match es[pos es k]? with
  | some e => e.k.toList == k.toList
  | none => false
theorem found_in {es : List EntD} {k : ByteArray} (h : found es k = true) : ∃ hi : pos es k < es.length, (es[pos es k]'hi).k = k := by
  unfold found at h
  split at h
  · rename_i e he
    obtain ⟨hi, he⟩ := List.getElem?_eq_some_iff.1 he
    exact ⟨hi, by rw [he]; exact toList_inj (by simpa using h)⟩
  · cases h
theorem found_not {es : List EntD} {k : ByteArray} (h : found es k = false) (hi : pos es k < es.length) : ltK k (es[pos es k]'hi).k = true := by
  unfold found at h
  rw [List.getElem?_eq_getElem hi] at h
  have h1 := pos_at es k hi
  cases g : ltK k (es[pos es k]'hi).k
  · have := ltK_eq h1 g
    simp [this] at h
  · rfl
/-- What a change makes of entries. -/
def stepE (es : List EntD) (d : DelD) : List EntD :=
  if d.kind = 3 then es.take (pos es d.k) else es.take (pos es d.k) ++ (if d.kind = 2 then [] else [⟨d.k, d.v⟩]) ++ es.drop (pos es d.k + if found es d.k then 1 else 0)
theorem stepE_rise {es : List EntD} (h : Rise es) (d : DelD) : Rise (stepE es d) := by
  have ht : Rise (es.take (pos es d.k)) := h.sublist (List.take_sublist _ _)
  have hd : ∀ n, Rise (es.drop n) := fun n => h.sublist (List.drop_sublist _ _)
  have lo : ∀ a ∈ es.take (pos es d.k), ltK a.k d.k = true := fun a ha => by
    obtain ⟨i, hi, rfl⟩ := List.mem_iff_getElem.1 ha
    have hi2 : i < pos es d.k := by rw [List.length_take] at hi; omega
    rw [List.getElem_take]
    exact pos_lt es d.k i (by rw [List.length_take] at hi; omega) hi2
  have up : ∀ a ∈ es.drop (pos es d.k + if found es d.k then 1 else 0), ltK d.k a.k = true := fun a ha => by
    rcases Bool.eq_false_or_eq_true (found es d.k) with hf | hf
    · rw [hf, if_pos rfl] at ha
      obtain ⟨i, hi, rfl⟩ := List.mem_iff_getElem.1 ha
      rw [List.length_drop] at hi
      rw [List.getElem_drop]
      obtain ⟨hp, hk⟩ := found_in hf
      have := h.lt (i := pos es d.k) (j := pos es d.k + 1 + i) (by omega) (by omega)
      rwa [hk] at this
    · rw [hf, if_neg (by decide), Nat.add_zero] at ha
      obtain ⟨i, hi, rfl⟩ := List.mem_iff_getElem.1 ha
      rw [List.length_drop] at hi
      rw [List.getElem_drop]
      have hp : pos es d.k < es.length := by omega
      have h0 := found_not hf hp
      rcases Nat.eq_zero_or_pos i with rfl | hpos
      · exact h0
      · exact ltK_trans h0 (h.lt (by omega) (by omega))
  unfold stepE
  split
  · exact ht
  · unfold Rise at *
    rw [List.pairwise_append, List.pairwise_append]
    refine ⟨⟨ht, ?_, ?_⟩, hd _, ?_⟩
    · split <;> simp
    · intro a ha b hb
      split at hb
      · simp at hb
      · obtain rfl : b = ⟨d.k, d.v⟩ := by simpa using hb
        exact lo a ha
    · intro a ha b hb
      rcases List.mem_append.1 ha with ha | ha
      · exact ltK_trans (lo a ha) (up b hb)
      · split at ha
        · simp at ha
        · obtain rfl : a = ⟨d.k, d.v⟩ := by simpa using ha
          exact up b hb
theorem stepE_put_new {es : List EntD} {d : DelD} (hk : d.kind = 1) (hf : found es d.k = false) : stepE es d = es.take (pos es d.k) ++ ⟨d.k, d.v⟩ :: es.drop (pos es d.k) := by
  unfold stepE
  rw [if_neg (by omega), if_neg (by omega), hf]
  simp
theorem stepE_put_old {es : List EntD} {d : DelD} (hk : d.kind = 1) (hf : found es d.k = true) : stepE es d = es.set (pos es d.k) ⟨d.k, d.v⟩ := by
  unfold stepE
  rw [if_neg (by omega), if_neg (by omega), hf]
  obtain ⟨hp, _⟩ := found_in hf
  rw [List.set_eq_take_append_cons_drop, if_pos hp]
  simp
theorem stepE_drop_old {es : List EntD} {d : DelD} (hk : d.kind = 2) (hf : found es d.k = true) : stepE es d = es.take (pos es d.k) ++ es.drop (pos es d.k + 1) := by
  unfold stepE
  rw [if_neg (by omega), if_pos hk, hf]
  simp
theorem stepE_drop_new {es : List EntD} {d : DelD} (hk : d.kind = 2) (hf : found es d.k = false) : stepE es d = es := by
  unfold stepE
  rw [if_neg (by omega), if_pos hk, hf]
  simp
theorem stepE_split {es : List EntD} {d : DelD} (hk : d.kind = 3) : stepE es d = es.take (pos es d.k) := by
  unfold stepE
  rw [if_pos hk]
theorem stepE_len (es : List EntD) (d : DelD) : (stepE es d).length ≤ es.length + 1 := by
  unfold stepE
  have := pos_le es d.k
  split
  · rw [List.length_take]; omega
  · simp only [List.length_append, List.length_take, List.length_drop]
    have : (if d.kind = 2 then ([] : List EntD) else [⟨d.k, d.v⟩]).length ≤ 1 := by split <;> simp
    omega
/-- Behind changes. -/
def entsE (es : List EntD) (ds : List DelD) : List EntD := ds.foldl stepE es
def highE (h : ByteArray) (ds : List DelD) : ByteArray := ds.foldl (fun h d => if d.kind = 3 then d.k else h) h
def rightE (r : Int) (ds : List DelD) : Int := ds.foldl (fun r d => if d.kind = 3 then d.to else r) r
def keyK (k : ByteArray) : Bool := decide (1 ≤ k.size ∧ k.size ≤ 40)
def valK (v : ByteArray) : Bool := decide (v.size ≤ 100)
def idK (n : Int) : Bool := decide (0 ≤ n ∧ n ≤ 1000)
/-- From Low on, below a bound. -/
def inK (lo hi k : ByteArray) : Bool := !ltK k lo && (hi.toList.isEmpty || ltK k hi)
def okEnt (lo hi : ByteArray) (e : EntD) : Bool := keyK e.k && valK e.v && inK lo hi e.k
def okDel (lo hi : ByteArray) (d : DelD) : Bool :=
  keyK d.k && inK lo hi d.k && ((decide (d.kind = 1) && valK d.v && decide (d.to = 0)) || (decide (d.kind = 2) && d.v.toList.isEmpty && decide (d.to = 0)) || (decide (d.kind = 3) && d.v.toList.isEmpty && ltK lo d.k && idK d.to))
/-- The entry at a place may stand there. -/
def okAtE (lo hi : ByteArray) (es : List EntD) (i : Nat) : Bool := match es[i]? with
  | some e => okEnt lo hi e && (i == 0 || match es[i - 1]? with
    | some p => ltK p.k e.k
    | none => false)
  | none => false
def okBase (lo hi : ByteArray) (es : List EntD) : Bool := (List.range es.length).all (okAtE lo hi es)
/-- The change at a place may stand there. -/
def okAtD (lo hi : ByteArray) (ds : List DelD) (i : Nat) : Bool := match ds[i]? with
  | some d => okDel lo (highE hi (ds.take i)) d
  | none => false
def okChain (lo hi : ByteArray) (ds : List DelD) : Bool := (List.range ds.length).all (okAtD lo hi ds)
def okBounds (lo hi : ByteArray) (right : Int) : Bool :=
  decide (lo.size ≤ 40) && decide (hi.size ≤ 40) && (if hi.toList.isEmpty = true then decide (right = -1) else ltK lo hi && idK right)
/-- A page is right. -/
def okPage (lo hi : ByteArray) (right : Int) (es : List EntD) (ds : List DelD) : Bool :=
  okBounds lo hi right && decide (es.length ≤ 32) && decide (ds.length ≤ 12) && okBase lo hi es && okChain lo hi ds && decide ((entsE es ds).length ≤ 32)
theorem okBase_true {lo hi : ByteArray} {es : List EntD} (h : ∀ i, i < es.length → okAtE lo hi es i = true) : okBase lo hi es = true := by
  unfold okBase
  rw [List.all_eq_true]
  exact fun i hi => h i (List.mem_range.1 hi)
theorem okBase_false {lo hi : ByteArray} {es : List EntD} {i : Nat} (hi' : i < es.length) (h : okAtE lo hi es i = false) : okBase lo hi es = false := by
  unfold okBase
  rw [List.all_eq_false]
  exact ⟨i, List.mem_range.2 hi', by rw [h]; decide⟩
theorem okChain_true {lo hi : ByteArray} {ds : List DelD} (h : ∀ i, i < ds.length → okAtD lo hi ds i = true) : okChain lo hi ds = true := by
  unfold okChain
  rw [List.all_eq_true]
  exact fun i hi => h i (List.mem_range.1 hi)
theorem okChain_false {lo hi : ByteArray} {ds : List DelD} {i : Nat} (hi' : i < ds.length) (h : okAtD lo hi ds i = false) : okChain lo hi ds = false := by
  unfold okChain
  rw [List.all_eq_false]
  exact ⟨i, List.mem_range.2 hi', by rw [h]; decide⟩
theorem okAtE_first {lo hi : ByteArray} {es : List EntD} (h : 0 < es.length) : okAtE lo hi es 0 = okEnt lo hi es[0] := by
  unfold okAtE
  rw [List.getElem?_eq_getElem h]
  simp
theorem okAtE_next {lo hi : ByteArray} {es : List EntD} {i : Nat} (h : i + 1 < es.length) : okAtE lo hi es (i + 1) = (okEnt lo hi es[i + 1] && ltK es[i].k es[i + 1].k) := by
  unfold okAtE
  rw [List.getElem?_eq_getElem h, List.getElem?_eq_getElem (show i + 1 - 1 < es.length by omega)]
  simp
theorem okAtD_at {lo hi : ByteArray} {ds : List DelD} {i : Nat} (h : i < ds.length) : okAtD lo hi ds i = okDel lo (highE hi (ds.take i)) ds[i] := by
  unfold okAtD
  rw [List.getElem?_eq_getElem h]
theorem rise_of_ok {lo hi : ByteArray} {es : List EntD} (h : ∀ i, i < es.length → okAtE lo hi es i = true) : Rise es := by
  have step : ∀ i (hi' : i + 1 < es.length), ltK es[i].k es[i + 1].k = true := fun i hi' => by
    have := h (i + 1) hi'
    rw [okAtE_next hi', Bool.and_eq_true] at this
    exact this.2
  refine List.pairwise_iff_getElem.2 fun i j hi' hj hij => ?_
  obtain ⟨d, rfl⟩ : ∃ d, j = i + 1 + d := ⟨j - (i + 1), by omega⟩
  induction d with
  | zero => exact step i hj
  | succ d ih => exact ltK_trans (ih (by omega) (by omega)) (step (i + 1 + d) hj)
theorem takeG_snoc {α : Type} (l : List α) (i : Nat) (h : i < l.length) : l.take (i + 1) = l.take i ++ [l[i]] := by
  rw [List.take_add_one, List.getElem?_eq_getElem h]
  rfl
theorem highE_snoc (h : ByteArray) (ds : List DelD) (d : DelD) : highE h (ds ++ [d]) = if d.kind = 3 then d.k else highE h ds := by
  unfold highE
  rw [List.foldl_append]
  rfl
theorem rightE_snoc (r : Int) (ds : List DelD) (d : DelD) : rightE r (ds ++ [d]) = if d.kind = 3 then d.to else rightE r ds := by
  unfold rightE
  rw [List.foldl_append]
  rfl
theorem entsE_snoc (es : List EntD) (ds : List DelD) (d : DelD) : entsE es (ds ++ [d]) = stepE (entsE es ds) d := by
  unfold entsE
  rw [List.foldl_append]
  rfl
theorem entsE_rise {es : List EntD} (h : Rise es) (ds : List DelD) : Rise (entsE es ds) := by
  unfold entsE
  induction ds generalizing es with
  | nil => exact h
  | cons d r ih => exact ih (stepE_rise h d)
theorem entsE_len (es : List EntD) (ds : List DelD) : (entsE es ds).length ≤ es.length + ds.length := by
  unfold entsE
  induction ds generalizing es with
  | nil => simp
  | cons d r ih =>
    have h1 := ih (stepE es d)
    have h2 := stepE_len es d
    rw [List.foldl_cons, List.length_cons]
    omega
end Go.Proofs.Ytkggpapmhopaeaa
