/-
  Sec, FlashD, FlashT, FlashS, Tail, FlashM, BRow, BoolS, ReS, CrcI, ImgI, ImgI1, ImgI2, CrcS, ImgS, ImgB, ScI in one.
-/
import Derived.Test.YtcflepnckjappaaGreatBase
import Derived.Test.YtcflepnckjappaaGreatOwn
import Derived.Test.YtcflepnckjappaaGreatReAll5
import Derived.Test.YtcflepnckjappaaGreatMarkB
import Derived.Test.YtcflepnckjappaaGreatReAll3
import Derived.Test.YtcflepnckjappaaGreatCrcL
import Derived.Laws.BitsLemmas
import Derived.Test.YtcflepnckjappaaGreatImgL
import Derived.Deep.MidRow
import Derived.Deep.RegionWith
import Derived.Deep.DeepCutAuto
namespace Go.Proofs.YtcflepnckjappaaGreat
/-- A sector of noughts. -/
def nou : List Int := List.replicate 16 0
/-- The bytes of c sectors. -/
def secBytes (c : Nat) (f : Nat → List Int) : List Int := (List.range c).flatMap f
def updS (f : Nat → List Int) (n : Nat) (s : List Int) : Nat → List Int := fun i => if i = n then s else f i
/-- A sector that waits. -/
structure WD where
  at_ : Int
  xs : List Int
/-- Some first bytes of a sector put into bytes, which grow by noughts. -/
def growD (b : List Int) (n : Nat) : List Int := b ++ List.replicate (n - b.length) 0
def putB (b : List Int) (p : Nat) (d : List Int) : List Int := b.take p ++ d ++ b.drop (p + d.length)
def putD (b : List Int) (w : WD) (n : Nat) : List Int := putB (growD b ((w.at_.toNat + 1) * 16)) (w.at_.toNat * 16) (w.xs.take n)
def readD (b : List Int) (ws : List WD) : List Int := ws.foldl (fun o w => putD o w 16) b

theorem secBytes_len (f : Nat → List Int) (h : ∀ i, (f i).length = 16) : ∀ c, (secBytes c f).length = c * 16 := by
  intro c
  induction c with
  | zero => rfl
  | succ n ih =>
    unfold secBytes at *
    rw [List.range_succ, List.flatMap_append, List.length_append, ih]
    simp [h n]
    omega
theorem secBytes_get (f : Nat → List Int) (h : ∀ i, (f i).length = 16) : ∀ c j, j < c * 16 → (secBytes c f)[j]? = (f (j / 16))[j % 16]? := by
  intro c
  induction c with
  | zero => intro j hj; omega
  | succ n ih =>
    intro j hj
    have hl := secBytes_len f h n
    have e : secBytes (n + 1) f = secBytes n f ++ f n := by
      unfold secBytes
      rw [List.range_succ, List.flatMap_append]; simp
    rw [e]
    by_cases hlt : j < n * 16
    · rw [List.getElem?_append_left (by omega), ih j hlt]
    · rw [List.getElem?_append_right (by omega), hl]
      have e1 : j / 16 = n := by omega
      have e2 : j % 16 = j - n * 16 := by omega
      rw [e1, e2]
theorem growD_get (b : List Int) (n j : Nat) : (growD b n)[j]? = if j < b.length then b[j]? else if j < n then some 0 else none := by
  unfold growD
  by_cases h : j < b.length
  · rw [if_pos h, List.getElem?_append_left h]
  · rw [if_neg h, List.getElem?_append_right (by omega), List.getElem?_replicate]
    by_cases h2 : j < n
    · rw [if_pos h2, if_pos (by omega)]
    · rw [if_neg h2, if_neg (by omega)]
theorem growD_len (b : List Int) (n : Nat) : (growD b n).length = max b.length n := by
  unfold growD; simp; omega
theorem putB_get (b : List Int) (p : Nat) (d : List Int) (h : p + d.length ≤ b.length) (j : Nat) : (putB b p d)[j]? = if p ≤ j ∧ j < p + d.length then d[j - p]? else b[j]? := by
  unfold putB
  by_cases h1 : j < p
  · rw [if_neg (by omega), List.append_assoc, List.getElem?_append_left (by simp; omega), List.getElem?_take, if_pos h1]
  · by_cases h2 : j < p + d.length
    · rw [if_pos (by omega), List.getElem?_append_left (by simp; omega), List.getElem?_append_right (by simp; omega)]
      congr 1
      simp; omega
    · rw [if_neg (by omega), List.getElem?_append_right (by simp; omega), List.getElem?_drop]
      congr 1
      simp; omega
theorem putB_len (b : List Int) (p : Nat) (d : List Int) (h : p + d.length ≤ b.length) : (putB b p d).length = b.length := by
  unfold putB; simp; omega
/-- To put a sector in the map of sectors is to put its bytes: 't' first bytes of the new one, behind them what was there. -/
theorem secBytes_put (c : Nat) (f : Nat → List Int) (h : ∀ i, (f i).length = 16) (hz : ∀ i, c ≤ i → f i = nou) (w : WD) (hx : w.xs.length = 16) (t : Nat) (ht : t ≤ 16) :
    secBytes (max c (w.at_.toNat + 1)) (updS f w.at_.toNat (w.xs.take t ++ (f w.at_.toNat).drop t)) = putD (secBytes c f) w t := by
  obtain ⟨n, hn⟩ : ∃ n, n = w.at_.toNat := ⟨_, rfl⟩
  unfold putD
  rw [← hn]
  have hu : ∀ i, (updS f n (w.xs.take t ++ (f n).drop t) i).length = 16 := by
    intro i
    unfold updS
    split
    · simp [hx, h n]; omega
    · exact h i
  have hl := secBytes_len f h c
  have hg := growD_len (secBytes c f) ((n + 1) * 16)
  have hd : (w.xs.take t).length = t := by simp [hx]; omega
  apply List.ext_getElem?
  intro j
  rw [putB_get _ _ _ (by rw [hg, hd, hl]; omega), growD_get, hl, hd]
  by_cases hj : j < max c (n + 1) * 16
  · rw [secBytes_get _ hu _ _ hj]
    by_cases hjn : j / 16 = n
    · have eu : updS f n (w.xs.take t ++ (f n).drop t) (j / 16) = w.xs.take t ++ (f n).drop t := by unfold updS; rw [if_pos hjn]
      rw [eu]
      by_cases hjt : j % 16 < t
      · rw [List.getElem?_append_left (by omega), if_pos (by omega)]
        congr 1; omega
      · rw [List.getElem?_append_right (by omega), hd, List.getElem?_drop, if_neg (by omega)]
        have e : t + (j % 16 - t) = j % 16 := by omega
        rw [e]
        by_cases hjc : j < c * 16
        · rw [if_pos hjc, secBytes_get f h c j hjc, hjn]
        · rw [if_neg hjc, if_pos (by omega), hz n (by omega)]
          rw [nou, List.getElem?_replicate, if_pos (by omega)]
    · have eu : updS f n (w.xs.take t ++ (f n).drop t) (j / 16) = f (j / 16) := by unfold updS; rw [if_neg hjn]
      rw [eu, if_neg (by omega)]
      by_cases hjc : j < c * 16
      · rw [if_pos hjc, secBytes_get f h c j hjc]
      · rw [if_neg hjc, if_pos (by omega), hz (j / 16) (by omega)]
        rw [nou, List.getElem?_replicate, if_pos (by omega)]
  · rw [List.getElem?_eq_none (by rw [secBytes_len _ hu]; omega), if_neg (by omega), if_neg (by omega), if_neg (by omega)]
theorem secBytes_put16 (c : Nat) (f : Nat → List Int) (h : ∀ i, (f i).length = 16) (hz : ∀ i, c ≤ i → f i = nou) (w : WD) (hx : w.xs.length = 16) :
    secBytes (max c (w.at_.toNat + 1)) (updS f w.at_.toNat w.xs) = putD (secBytes c f) w 16 := by
  have := secBytes_put c f h hz w hx 16 (Nat.le_refl _)
  rwa [List.take_of_length_le (by omega), List.drop_eq_nil_of_le (by rw [h]; omega), List.append_nil] at this
end Go.Proofs.YtcflepnckjappaaGreat

namespace Go.Proofs.YtcflepnckjappaaGreat
open Go.RowKit

theorem row_grow {w w' : World} {a : Option Addr} {n : Nat} {xs : List Int} (h : Row w a n xs) (hb : Below w.heap.size w w') : Row w' a n xs := by
  refine ⟨h.1, fun i hi => ?_⟩
  obtain ⟨b, off, e, hc⟩ := h.2 i hi
  exact ⟨b, off, e, (hb.cell (p := ⟨b, off + i, none⟩) (cell_lt hc)).trans hc⟩
theorem cell_new {w : World} {cs : Array Value} {t : TypeId} {g j : Nat} (hg : g = w.heap.size) : (w.alloc (.cells cs t)).cell? ⟨g, j, none⟩ = cs[j]? := by subst hg; simp
theorem cell_old {w : World} {o : Obj} {p : Addr} (h : p.block < w.heap.size) : (w.alloc o).cell? p = w.cell? p := World.cell?_alloc_lt _ _ _ h
theorem frozen_new {w : World} {cs : Array Value} {t : TypeId} {g j : Nat} (hg : g = w.heap.size) : (w.alloc (.cells cs t)).frozen? ⟨g, j, none⟩ = false := by subst hg; simp
theorem frozen_old {w : World} {o : Obj} {p : Addr} (h : p.block < w.heap.size) : (w.alloc o).frozen? p = w.frozen? p := World.frozen?_alloc_past _ _ _ h
/-- A slice of sectors with their numbers, as it reads. -/
def WRow (w : World) (a : Option Addr) (n : Nat) (ws : List WD) : Prop :=
  ws.length = n ∧ ∀ i (hi : i < ws.length), ∃ b off, a = some ⟨b, off, none⟩ ∧ w.cell? ⟨b, off + i * 2, none⟩ = some (.int .i64 ws[i].at_) ∧
    ∃ a' c', w.cell? ⟨b, off + i * 2 + 1, none⟩ = some (.slice a' ws[i].xs.length c') ∧ (ws[i].xs.length ≤ maxLen ∧ ws[i].xs.length ≤ c') ∧ Row w a' ws[i].xs.length ws[i].xs
theorem WRow.below {w w' : World} {a : Option Addr} {n : Nat} {ws : List WD} (h : WRow w a n ws) (hb : Below w.heap.size w w') : WRow w' a n ws := by
  refine ⟨h.1, fun i hi => ?_⟩
  obtain ⟨b, off, e, c0, a', c', c1, hm, hr⟩ := h.2 i hi
  have hbl : b < w.heap.size := cell_lt c0
  exact ⟨b, off, e, (hb.cell (p := ⟨b, off + i * 2, none⟩) hbl).trans c0, a', c', (hb.cell (p := ⟨b, off + i * 2 + 1, none⟩) hbl).trans c1, hm, row_grow hr hb⟩
/-- A sector with its number as a value. -/
abbrev wv (x : Int) (a : Option Addr) (n c : Nat) : Value := .agg #[.int .i64 x, .slice a n c]
abbrev fv (ah : Option Addr) (nh ch : Nat) (aw : Option Addr) (nw cw : Nat) : Value := .agg #[.slice ah nh ch, .slice aw nw cw]
theorem Tryz.infoWrite : (Tryz.prog.info? 214).map (fun i => (i.zero, i.size, i.bytes)) = some (some (.agg #[.int .i64 0, .slice none 0 0]), 2, 32) := by kernel_rfl

/-- A block of n sectors that the call itself laid: their numbers and bytes (W), where each lies (A), each in a block of its own. -/
structure WOwn (w : World) (g n : Nat) (W : Nat → WD) (A : Nat → Option Addr) (C : Nat → Nat) : Prop where
  lt : g < w.heap.size
  free : ∀ j, w.frozen? ⟨g, j, none⟩ = false
  at_ : ∀ i, i < n → w.cell? ⟨g, i * 2, none⟩ = some (.int .i64 (W i).at_)
  data : ∀ i, i < n → w.cell? ⟨g, i * 2 + 1, none⟩ = some (.slice (A i) (W i).xs.length (C i))
  len : ∀ i, i < n → (W i).xs.length ≤ maxLen ∧ (W i).xs.length ≤ C i
  row : ∀ i, i < n → Row w (A i) (W i).xs.length (W i).xs
  own : ∀ i, i < n → ∀ x, A i = some x → x.block ≠ g ∧ x.block < w.heap.size ∧ ∀ j, w.frozen? ⟨x.block, j, none⟩ = false
  apart : ∀ i j, i < n → j < n → i ≠ j → ∀ x y, A i = some x → A j = some y → x.block ≠ y.block
theorem WOwn.below {w w' : World} {g n : Nat} {W : Nat → WD} {A : Nat → Option Addr} {C : Nat → Nat} (h : WOwn w g n W A C) (hb : Below w.heap.size w w') : WOwn w' g n W A C :=
  ⟨Nat.lt_of_lt_of_le h.lt hb.size, fun j => (hb.frozen (p := ⟨g, j, none⟩) h.lt).trans (h.free j), fun i hi => (hb.cell (p := ⟨g, i * 2, none⟩) h.lt).trans (h.at_ i hi),
    fun i hi => (hb.cell (p := ⟨g, i * 2 + 1, none⟩) h.lt).trans (h.data i hi), h.len, fun i hi => row_grow (h.row i hi) hb,
    fun i hi x hx => ⟨(h.own i hi x hx).1, Nat.lt_of_lt_of_le (h.own i hi x hx).2.1 hb.size, fun j => (hb.frozen (p := ⟨x.block, j, none⟩) (h.own i hi x hx).2.1).trans ((h.own i hi x hx).2.2 j)⟩, h.apart⟩
/-- The blocks of S hold what they held. -/
def Kept (S : Nat → Prop) (w w' : World) : Prop := w.heap.size ≤ w'.heap.size ∧ ∀ k, S k → k < w.heap.size → w'.heap[k]? = w.heap[k]?
theorem Kept.refl (S : Nat → Prop) (w : World) : Kept S w w := ⟨Nat.le_refl _, fun _ _ _ => rfl⟩
theorem Kept.trans {S : Nat → Prop} {w1 w2 w3 : World} (h : Kept S w1 w2) (k : Kept S w2 w3) : Kept S w1 w3 := ⟨Nat.le_trans h.1 k.1, fun i hi hl => (k.2 i hi (Nat.lt_of_lt_of_le hl h.1)).trans (h.2 i hi hl)⟩
theorem Kept.set {S : Nat → Prop} {b : Nat} (h : ¬ S b) (w : World) (o : Nat) (v : Value) : Kept S w (w.setCell ⟨b, o, none⟩ v) := ⟨by simp [World.setCell], fun k hk _ => Below.heap_setCell _ _ _ _ (fun e => h (by simp only at e; rw [← e]; exact hk))⟩
theorem Kept.of_below {S : Nat → Prop} {B : Nat} {w w' : World} (h : Below B w w') (hS : ∀ k, S k → k < w.heap.size → k < B) : Kept S w w' := ⟨h.size, fun k hk hl => h.block k (hS k hk hl)⟩
theorem Kept.grow {S : Nat → Prop} {w w' : World} (h : Below w.heap.size w w') : Kept S w w' := Kept.of_below h (fun _ _ hl => hl)
theorem Kept.mono {S T : Nat → Prop} {w w' : World} (h : Kept S w w') (hS : ∀ k, T k → S k) : Kept T w w' := ⟨h.1, fun k hk hl => h.2 k (hS k hk) hl⟩
theorem Kept.cell {S : Nat → Prop} {w w' : World} (h : Kept S w w') {p : Addr} (hp : S p.block) (hl : p.block < w.heap.size) : w'.cell? p = w.cell? p := World.cell?_of_block (w := w) (h.2 p.block hp hl)
theorem Kept.frozen {S : Nat → Prop} {w w' : World} (h : Kept S w w') {p : Addr} (hp : S p.block) (hl : p.block < w.heap.size) : w'.frozen? p = w.frozen? p := by
  simp [World.frozen?, h.2 p.block hp hl]
theorem Kept.row {S : Nat → Prop} {w w' : World} {a : Option Addr} {n : Nat} {xs : List Int} (hk : Kept S w w') (h : Row w a n xs) (ha : ∀ x, a = some x → S x.block) : Row w' a n xs := by
  refine ⟨h.1, fun i hi => ?_⟩
  obtain ⟨b, off, e, hc⟩ := h.2 i hi
  have hb : S b := ha ⟨b, off, none⟩ e
  exact ⟨b, off, e, (hk.cell (p := ⟨b, off + i, none⟩) hb (cell_lt hc)).trans hc⟩
theorem WOwn.kept {S : Nat → Prop} {w w' : World} {g n : Nat} {W : Nat → WD} {A : Nat → Option Addr} {C : Nat → Nat} (h : WOwn w g n W A C) (hk : Kept S w w') (hg : S g) (hA : ∀ i, i < n → ∀ x, A i = some x → S x.block) : WOwn w' g n W A C :=
  ⟨Nat.lt_of_lt_of_le h.lt hk.1, fun j => (hk.frozen (p := ⟨g, j, none⟩) hg h.lt).trans (h.free j), fun i hi => (hk.cell (p := ⟨g, i * 2, none⟩) hg h.lt).trans (h.at_ i hi),
    fun i hi => (hk.cell (p := ⟨g, i * 2 + 1, none⟩) hg h.lt).trans (h.data i hi), h.len, fun i hi => hk.row (h.row i hi) (hA i hi),
    fun i hi x hx => ⟨(h.own i hi x hx).1, Nat.lt_of_lt_of_le (h.own i hi x hx).2.1 hk.1, fun j => (hk.frozen (p := ⟨x.block, j, none⟩) (hA i hi x hx) (h.own i hi x hx).2.1).trans ((h.own i hi x hx).2.2 j)⟩, h.apart⟩
theorem WOwn.wrow {w : World} {g n : Nat} {W : Nat → WD} {A : Nat → Option Addr} {C : Nat → Nat} {ws : List WD} (h : WOwn w g n W A C) (hl : ws.length = n) (hW : ∀ i (hi : i < ws.length), W i = ws[i]) : WRow w (some ⟨g, 0, none⟩) n ws := by
  refine ⟨hl, fun i hi => ⟨g, 0, rfl, ?_⟩⟩
  have hi' : i < n := by omega
  have e := hW i hi
  rw [← e, Nat.zero_add]
  exact ⟨h.at_ i hi', A i, C i, h.data i hi', h.len i hi', h.row i hi'⟩
def updW (W : Nat → WD) (k : Nat) (d : WD) : Nat → WD := fun i => if i = k then d else W i
def updA (A : Nat → Option Addr) (k : Nat) (a : Option Addr) : Nat → Option Addr := fun i => if i = k then a else A i
def updC (A : Nat → Nat) (k : Nat) (a : Nat) : Nat → Nat := fun i => if i = k then a else A i
/-- One more is laid: a new row of bytes. -/
theorem WOwn.lay {w : World} {g n k B : Nat} {W : Nat → WD} {A : Nat → Option Addr} {C : Nat → Nat} (h : WOwn w g n W A C) (hk : k < n) (hg : g < B) (hA : ∀ i, i < n → ∀ x, A i = some x → x.block < B) {d : WD} {a : Option Addr} {c : Nat} (hm : Mine w B (.slice a d.xs.length c) d.xs) :
    WOwn ((w.setCell ⟨g, k * 2, none⟩ (.int .i64 d.at_)).setCell ⟨g, k * 2 + 1, none⟩ (.slice a d.xs.length c)) g n (updW W k d) (updA A k a) (updC C k c) := by
  obtain ⟨a1, c1, e, hc1, hc2, hr, ho⟩ := hm
  injection e with e1 e2 e3
  subst e1 e3
  have s0 : w.cell? ⟨g, k * 2, none⟩ = some (.int .i64 (W k).at_) := h.at_ k hk
  have s1 : w.cell? ⟨g, k * 2 + 1, none⟩ = some (.slice (A k) (W k).xs.length (C k)) := h.data k hk
  have ne : ∀ p q : Nat, p ≠ q → (⟨g, p, none⟩ : Addr) ≠ ⟨g, q, none⟩ := fun p q hpq e => hpq (by injection e)
  have nb : ∀ p : Addr, p.block ≠ g → ((w.setCell ⟨g, k * 2, none⟩ (.int .i64 d.at_)).setCell ⟨g, k * 2 + 1, none⟩ (.slice a d.xs.length c)).cell? p = w.cell? p := fun p hp => by
    rw [World.cell?_setCell_other _ _ _ _ (by intro e; rw [← e] at hp; exact hp rfl), World.cell?_setCell_other _ _ _ _ (by intro e; rw [← e] at hp; exact hp rfl)]
  refine ⟨by simpa using h.lt, fun j => by simpa using h.free j, fun i hi => ?_, fun i hi => ?_, fun i hi => ?_, fun i hi => ?_, fun i hi x hx => ?_, fun i j hi hj hij x y hx hy => ?_⟩
  · unfold updW
    by_cases e : i = k
    · subst e
      rw [if_pos rfl, World.cell?_setCell_other _ _ _ _ (ne _ _ (by omega))]
      exact World.cell?_setCell_same _ _ _ s0
    · rw [if_neg e, World.cell?_setCell_other _ _ _ _ (ne _ _ (by omega)), World.cell?_setCell_other _ _ _ _ (ne _ _ (by omega))]
      exact h.at_ i hi
  · unfold updW updA updC
    by_cases e : i = k
    · subst e
      rw [if_pos rfl, if_pos rfl, if_pos rfl]
      exact World.cell?_setCell_same _ _ _ ((World.cell?_setCell_other _ _ _ _ (ne _ _ (by omega))).trans s1)
    · rw [if_neg e, if_neg e, if_neg e, World.cell?_setCell_other _ _ _ _ (ne _ _ (by omega)), World.cell?_setCell_other _ _ _ _ (ne _ _ (by omega))]
      exact h.data i hi
  · unfold updW updC
    by_cases e : i = k
    · rw [if_pos e, if_pos e]; omega
    · rw [if_neg e, if_neg e]; exact h.len i hi
  · unfold updW updA
    by_cases e : i = k
    · rw [if_pos e, if_pos e]
      exact hr.of_cells fun x hx p hp => nb p (by rw [hp]; have := (ho x hx).1; omega)
    · rw [if_neg e, if_neg e]
      exact (h.row i hi).of_cells fun x hx p hp => nb p (by rw [hp]; exact (h.own i hi x hx).1)
  · unfold updA at hx
    by_cases e : i = k
    · rw [if_pos e] at hx
      have := ho x hx
      exact ⟨by omega, by simpa using this.2.1, fun j => by simpa using this.2.2 j⟩
    · rw [if_neg e] at hx
      have := h.own i hi x hx
      exact ⟨this.1, by simpa using this.2.1, fun j => by simpa using this.2.2 j⟩
  · unfold updA at hx hy
    by_cases e : i = k
    · rw [if_pos e] at hx
      rw [if_neg (by omega)] at hy
      have h1 := (ho x hx).1
      have h2 := hA j hj y hy
      omega
    · rw [if_neg e] at hx
      by_cases e2 : j = k
      · rw [if_pos e2] at hy
        have h1 := (ho y hy).1
        have h2 := hA i hi x hx
        omega
      · rw [if_neg e2] at hy
        exact h.apart i j hi hj hij x y hx hy
end Go.Proofs.YtcflepnckjappaaGreat

namespace Go.Proofs.YtcflepnckjappaaGreat
open Go.RowKit

theorem szByteS_any (a : Option Addr) (n c : Nat) (left : Int) (w : World) (h0 : 0 ≤ left) (h1 : left ≤ 1048576) (hn : n ≤ maxLen) :
    Calls Tryz.prog 89 #[.slice a n c, .int .i64 left] w fun e w' => ∃ r : Int, e = .returned (.int .i64 r) ∧ (r = -1 ∨ (0 ≤ r ∧ r ≤ left ∧ (n : Int) ≤ left)) ∧ w' = w := by
  unfold maxLen at hn
  by_cases h : left - n < 0
  · go_enter Tryz.func89, Tryz.ntmps89
    go_wp2_with fail
    go_ret
    exact ⟨_, rfl, .inl rfl, rfl⟩
  · have hge : 0 ≤ left - n := by omega
    go_enter Tryz.func89, Tryz.ntmps89
    go_wp2_with fail
    go_ret
    exact ⟨_, rfl, .inr ⟨hge, by omega, by omega⟩, rfl⟩

theorem szWrite_any (x : Int) (a : Option Addr) (n c : Nat) (left : Int) (w : World) (h0 : 0 ≤ left) (h1 : left ≤ 1048576) (hn : n ≤ maxLen) :
    Calls Tryz.prog 179 #[wv x a n c, .int .i64 left] w fun e w' => ∃ r : Int, e = .returned (.int .i64 r) ∧ (r = -1 ∨ (0 ≤ r ∧ r ≤ left ∧ (n : Int) ≤ left)) ∧ Below w.heap.size w w' := by
  go_enter Tryz.func179, Tryz.ntmps179
  go_wp2_with fail
  refine (szByteS_any a n c left _ h0 h1 hn).mono ?_
  rintro e w1 ⟨r, rfl, hr, rfl⟩
  rcases hr with rfl | ⟨r0, r1, r2⟩
  · go_wp2_with fail
    go_ret
    exact ⟨-1, rfl, .inl rfl, (Below.refl _ _).alloc (Nat.le_refl _) _⟩
  · go_wp2_with fail
    go_ret
    exact ⟨r, rfl, .inr ⟨r0, r1, r2⟩, (Below.refl _ _).alloc (Nat.le_refl _) _⟩

set_option maxHeartbeats 1000000 in
theorem szWriteS_any (a : Option Addr) (n c : Nat) (ws : List WD) (left : Int) (w : World) (h0 : 0 ≤ left) (h1 : left ≤ 1048576) (hr : WRow w a n ws) (hn : n ≤ maxLen) :
    Calls Tryz.prog 90 #[.slice a n c, .int .i64 left] w fun e w' => ∃ r : Int, e = .returned (.int .i64 r) ∧ (r = -1 ∨ (0 ≤ r ∧ r ≤ left ∧ (n : Int) ≤ left ∧ ∀ i (hi : i < ws.length), (ws[i].xs.length : Int) ≤ left)) ∧ Below w.heap.size w w' := by
  unfold maxLen at hn
  have L := hide hr.1
  have R := hide hr.2
  clear hr
  by_cases hb : left - n < 0
  · go_enter Tryz.func90, Tryz.ntmps90
    go_wp2_with fail
    go_ret
    exact ⟨-1, rfl, .inl rfl, Below.refl _ _⟩
  have hb' : 0 ≤ left - n := by omega
  go_enter Tryz.func90, Tryz.ntmps90
  go_wp2_with fail
  go_loopw [1, 5] (fun l i wr => ∃ k : Nat, k ≤ n ∧ i = .int .i64 k ∧ ∃ q : Int, l = .int .i64 q ∧ 0 ≤ q ∧ q ≤ left - n ∧ Hid (∀ i (hi : i < ws.length), i < k → (ws[i].xs.length : Int) ≤ left) ∧ Below w.heap.size w wr) (fun _ i _ => n - (intOf i).toNat)
  case atStart => exact ⟨0, by omega, rfl, _, rfl, by omega, by omega, fun i _ hi => absurd hi (Nat.not_lt_zero _), Below.refl _ _⟩
  case round =>
    obtain ⟨k, hk, rfl, q, rfl, hq0, hq1, hA, hbel⟩ := hrel
    by_cases hlt : k < n
    · have hk2 : k < ws.length := by rw [unhide L]; exact hlt
      obtain ⟨b, off, rfl, c0, a', c', c1, hm, _⟩ := unhide R k hk2
      have hsz := hbel.size
      have hbl : b < w.heap.size := cell_lt c0
      have d0 := (hbel.cell (p := ⟨b, off + k * 2, none⟩) hbl).trans c0
      have d1 := (hbel.cell (p := ⟨b, off + k * 2 + 1, none⟩) hbl).trans c1
      have hS := hide (fun (hx : (ws[k].xs.length : Int) ≤ left) i (hi : i < ws.length) (h : i < k + 1) => show (ws[i].xs.length : Int) ≤ left from if e : i = k then by subst e; exact hx else unhide hA i hi (by omega))
      clear c0 c1 hA
      generalize ws[k] = pd at *
      go_wp2_with fail
      refine (szWrite_any pd.at_ a' pd.xs.length c' q wr hq0 (by omega) hm.1).mono ?_
      rintro e w1 ⟨r, rfl, hr, hb1⟩
      have bA := hbel.trans (hb1.mono hsz)
      clear hbel hb1 d0 d1
      rcases hr with rfl | ⟨r0, r1, r2⟩
      · go_wp2_with fail
        go_ret
        exact ⟨-1, rfl, .inl rfl, bA⟩
      · have hS2 := hide (unhide hS (by omega))
        clear hS
        go_wp2_with fail
        go_roundw
        case rel => exact ⟨k + 1, by omega, by go_num, r, rfl, r0, by omega, unhide hS2, bA⟩
        case measure => simp [intOf]; omega
    · obtain rfl : k = n := by omega
      go_wp2_with fail
      go_ret
      exact ⟨q, rfl, .inr ⟨hq0, by omega, by omega, fun i hi => unhide hA i hi (by rw [← unhide L]; exact hi)⟩, hbel⟩

theorem szFlash_any (ah : Option Addr) (nh ch : Nat) (aw : Option Addr) (nw cw : Nat) (ws : List WD) (left : Int) (w : World) (h0 : 0 ≤ left) (h1 : left ≤ 1048576) (hnh : nh ≤ maxLen) (hr : WRow w aw nw ws) (hn : nw ≤ maxLen) :
    Calls Tryz.prog 26 #[fv ah nh ch aw nw cw, .int .i64 left] w fun e w' => ∃ r : Int, e = .returned (.int .i64 r) ∧ (r = -1 ∨ (0 ≤ r ∧ r ≤ left ∧ (nh : Int) ≤ left ∧ (nw : Int) ≤ left ∧ ∀ i (hi : i < ws.length), (ws[i].xs.length : Int) ≤ left)) ∧ Below w.heap.size w w' := by
  have R := hide fun o => hr.below ((Below.refl _ _).alloc (Nat.le_refl _) o)
  clear hr
  go_enter Tryz.func26, Tryz.ntmps26
  go_wp2_with fail
  refine (szByteS_any ah nh ch left _ h0 h1 hnh).mono ?_
  rintro e w1 ⟨r, rfl, hr, rfl⟩
  rcases hr with rfl | ⟨r0, r1, r2⟩
  · go_wp2_with fail
    go_ret
    exact ⟨-1, rfl, .inl rfl, (Below.refl _ _).alloc (Nat.le_refl _) _⟩
  · go_wp2_with fail
    refine (szWriteS_any aw nw cw ws r _ r0 (by omega) (unhide R _) hn).mono ?_
    rintro e w2 ⟨r', rfl, hr', hb⟩
    have hb2 : Below w.heap.size w w2 := ((Below.refl _ _).alloc (Nat.le_refl _) _).trans (hb.mono (by simp))
    clear hb
    rcases hr' with rfl | ⟨q0, q1, q2, q3⟩
    · go_wp2_with fail
      go_ret
      exact ⟨-1, rfl, .inl rfl, hb2⟩
    · have Q := hide q3
      clear q3
      go_wp2_with fail
      go_ret
      exact ⟨r', rfl, .inr ⟨q0, by omega, r2, by omega, fun i hi => by have := unhide Q i hi; omega⟩, hb2⟩

set_option maxHeartbeats 1000000 in
theorem toWrite_any (d : WD) (a : Option Addr) (c : Nat) (w : World) (hn : d.xs.length ≤ 1048576) (h1 : Row w a d.xs.length d.xs) :
    Calls Tryz.prog 184 #[wv d.at_ a d.xs.length c] w fun e w' => ∃ a' c', e = .returned (wv d.at_ a' d.xs.length c') ∧ Mine w' w.heap.size (.slice a' d.xs.length c') d.xs ∧ Below w.heap.size w w' := by
  have R := hide fun o1 o2 o3 => row_alloc (o := o3) (row_alloc (o := o2) (row_alloc (o := o1) h1))
  clear h1
  obtain ⟨x, xs⟩ := d
  go_enter Tryz.func184, Tryz.ntmps184
  go_wp2_with fail
  refine (toByteS_any a xs.length c xs _ hn (unhide R _ _ _)).mono ?_
  clear R
  rintro e w1 ⟨v, rfl, hm, hb⟩
  obtain ⟨a', c', rfl, m1, m2, m3, m4⟩ := hm
  have hs := hb.size
  simp at hs
  have hM := hide (show Mine w1 w.heap.size (.slice a' xs.length c') xs from ⟨a', c', rfl, m1, m2, m3, fun x hx => ⟨by have := (m4 x hx).1; simp at this; omega, (m4 x hx).2⟩⟩)
  have hN := hide (show ∀ x, a' = some x → w.heap.size + 1 + 1 + 1 ≤ x.block from fun x hx => by have := (m4 x hx).1; simpa using this)
  clear m1 m2 m3 m4
  have d0 : w1.cell? ⟨w.heap.size + 1 + 1, 0, none⟩ = some (.int .i64 x) := (hb.cell (p := ⟨w.heap.size + 1 + 1, 0, none⟩) (by simp)).trans ((cell_new (by simp)).trans rfl)
  have d1 : w1.cell? ⟨w.heap.size + 1 + 1, 1, none⟩ = some (.slice none 0 0) := (hb.cell (p := ⟨w.heap.size + 1 + 1, 1, none⟩) (by simp)).trans ((cell_new (by simp)).trans rfl)
  have f1 : w1.frozen? ⟨w.heap.size + 1 + 1, 1, none⟩ = false := (hb.frozen (p := ⟨w.heap.size + 1 + 1, 1, none⟩) (by simp)).trans (frozen_new (by simp))
  have g0 : w1.cell? ⟨w.heap.size + 1, 0, none⟩ = some (.int .i64 0) := (hb.cell (p := ⟨w.heap.size + 1, 0, none⟩) (by simp)).trans ((cell_old (by simp)).trans ((cell_new (by simp)).trans rfl))
  have g1 : w1.cell? ⟨w.heap.size + 1, 1, none⟩ = some (.slice none 0 0) := (hb.cell (p := ⟨w.heap.size + 1, 1, none⟩) (by simp)).trans ((cell_old (by simp)).trans ((cell_new (by simp)).trans rfl))
  have e0 : w1.frozen? ⟨w.heap.size + 1, 0, none⟩ = false := (hb.frozen (p := ⟨w.heap.size + 1, 0, none⟩) (by simp)).trans ((frozen_old (by simp)).trans (frozen_new (by simp)))
  have e1 : w1.frozen? ⟨w.heap.size + 1, 1, none⟩ = false := (hb.frozen (p := ⟨w.heap.size + 1, 1, none⟩) (by simp)).trans ((frozen_old (by simp)).trans (frozen_new (by simp)))
  have BB := hide ((((((Below.refl w.heap.size w).alloc (Nat.le_refl _) _).alloc (by simp) _).alloc (by simp; omega) _).trans (hb.mono (by simp; omega))))
  clear hb
  go_wp2_with fail
  have B3 := hide ((((unhide BB).setCell (p := ⟨w.heap.size + 1 + 1, 1, none⟩) (by simp; omega) (.slice a' xs.length c')).setCell (p := ⟨w.heap.size + 1, 0, none⟩) (by simp) (.int .i64 x)).setCell (p := ⟨w.heap.size + 1, 1, none⟩) (by simp) (.slice a' xs.length c'))
  have hlt : w.heap.size + 1 < w1.heap.size := by omega
  refine bodyPost_ret (v := wv x a' xs.length c') (by simp [results, Tryz.results184, go_sem, g0, g1]) rfl ⟨a', c', rfl, ?_, unhide B3⟩
  obtain ⟨a1, c1, e, m1, m2, m3, m4⟩ := unhide hM
  injection e with e1 _ e3
  subst e1 e3
  refine ⟨a', c', rfl, m1, m2, m3.of_cells fun y hy p hp => ?_, fun y hy => ⟨(m4 y hy).1, by simpa using (m4 y hy).2.1, fun j => by simpa using (m4 y hy).2.2 j⟩⟩
  have := unhide hN y hy
  rw [World.cell?_setCell_other _ _ _ _ (by intro e; rw [← e] at hp; simp at hp; omega), World.cell?_setCell_other _ _ _ _ (by intro e; rw [← e] at hp; simp at hp; omega), World.cell?_setCell_other _ _ _ _ (by intro e; rw [← e] at hp; simp at hp; omega)]
end Go.Proofs.YtcflepnckjappaaGreat

namespace Go.Proofs.YtcflepnckjappaaGreat
open Go.RowKit

theorem wown_made {w : World} {base g n : Nat} (h : w.ownsRow base 214 2 (.slice (some ⟨g, 0, none⟩) n n) n (madeCells #[.int .i64 0, .slice none 0 0] (n * 2)).toList) : WOwn w g n (fun _ => ⟨0, []⟩) (fun _ => none) (fun _ => 0) := by
  have e : ∀ j, j < n * 2 → (madeCells #[.int .i64 0, .slice none 0 0] (n * 2)).toList[j]? = some ((#[.int .i64 0, .slice none 0 0] : Array Value)[j % 2]!) := fun j hj => by simp [madeCells, hj]
  refine ⟨(h.lt g rfl).2, fun j => h.frozenAt j, fun i hi => ?_, fun i hi => ?_, fun i hi => ⟨by unfold maxLen; simp, by simp⟩, fun i hi => ⟨rfl, fun j hj => absurd hj (Nat.not_lt_zero _)⟩, fun i hi x hx => (by cases hx), fun i j _ _ _ x y hx => (by cases hx)⟩
  · rw [h.cellAt _ (by omega), e _ (by omega), show i * 2 % 2 = 0 by omega]; rfl
  · rw [h.cellAt _ (by omega), e _ (by omega), show (i * 2 + 1) % 2 = 1 by omega]; rfl

set_option maxHeartbeats 2000000 in
theorem toWriteS_any (a : Option Addr) (n c : Nat) (ws : List WD) (w : World) (hn : n ≤ 1048576) (hx : ∀ i (hi : i < ws.length), ws[i].xs.length ≤ 1048576) (hr : WRow w a n ws) :
    Calls Tryz.prog 95 #[.slice a n c] w fun e w' => ∃ g W A C, e = .returned (.slice (some ⟨g, 0, none⟩) n n) ∧ w.heap.size ≤ g ∧ WOwn w' g n W A C ∧ (∀ i (hi : i < ws.length), W i = ws[i]) ∧ (∀ i x, A i = some x → w.heap.size ≤ x.block) ∧ Below w.heap.size w w' := by
  obtain ⟨i0, hi, hz0, hz1, hz2⟩ := info_parts Tryz.infoWrite
  have L := hide hr.1
  have R := hide hr.2
  have X := hide hx
  clear hr hx
  go_enter Tryz.func95, Tryz.ntmps95
  go_wp2_with (at_make; refine wpList_make_full _ rfl _ _ 30 rfl w.heap.size 214 i0 _ 2 Tryz.underlying30 hi hz0 hz1 _ _ _ _ n rfl rfl rfl rfl (by rw [hz2]; omega) (by unfold maxLen; omega) (Nat.le_refl _) ?_)
  intro w1 hown hgrow
  have hl0 := wown_made hown
  have hbel : Below w.heap.size w w1 := (Below.refl _ _).grown hgrow (Nat.le_refl _) (fun k hk => by cases hk)
  clear hown hgrow
  go_wp2_with fail
  go_loopw [4] (fun i wr => ∃ k : Nat, k ≤ n ∧ i = .int .i64 k ∧ (∃ W A C, Hid (WOwn wr w.heap.size n W A C) ∧ Hid (∀ i (hi : i < ws.length), i < k → W i = ws[i]) ∧ Hid (∀ i x, A i = some x → w.heap.size ≤ x.block)) ∧ Below w.heap.size w wr) (fun i _ => n - (intOf i).toNat)
  case atStart => exact ⟨0, by omega, rfl, ⟨_, _, _, hl0, fun i _ hi => absurd hi (Nat.not_lt_zero _), fun i x hx => by cases hx⟩, hbel⟩
  case round =>
    clear hl0 hbel
    obtain ⟨k, hk, rfl, ⟨W, A, C, hO, hW, hA⟩, hb⟩ := hrel
    by_cases hlt : k < n
    · have hk2 : k < ws.length := by rw [unhide L]; exact hlt
      obtain ⟨b, off, rfl, c0, a', c', c1, _, r1⟩ := unhide R k hk2
      have hX := unhide X k hk2
      have hbl : b < w.heap.size := cell_lt c0
      have d0 := (hb.cell (p := ⟨b, off + k * 2, none⟩) hbl).trans c0
      have d1 := (hb.cell (p := ⟨b, off + k * 2 + 1, none⟩) hbl).trans c1
      have r2 := hide (row_grow r1 hb)
      have hW2 := hide (fun i (hi : i < ws.length) (h : i < k + 1) => show updW W k ws[k] i = ws[i] from if e : i = k then by subst e; simp [updW] else by simp [updW, e]; exact unhide hW i hi (by omega))
      clear c0 c1 r1 hW
      generalize ws[k] = pd at *
      go_wp2_with fail
      refine (toWrite_any pd a' c' wr hX (unhide r2)).mono ?_
      rintro e w2 ⟨a2, c2, rfl, hm, hb2⟩
      have O2 := (unhide hO).below hb2
      have S := hide (O2.lay (d := pd) (a := a2) (c := c2) hlt (B := wr.heap.size) (unhide hO).lt (fun i hi x hx => ((unhide hO).own i hi x hx).2.1) hm)
      have A2 := hide (show ∀ i x, updA A k a2 i = some x → w.heap.size ≤ x.block from fun i x hx => by
        unfold updA at hx
        by_cases e : i = k
        · rw [if_pos e] at hx
          obtain ⟨a3, c3, e3, _, _, _, h4⟩ := hm
          injection e3 with e3
          have h5 := (h4 x (e3 ▸ hx)).1
          have h6 := hb.size
          omega
        · rw [if_neg e] at hx; exact unhide hA i x hx)
      have e0 := O2.at_ k hlt
      have e1 := O2.data k hlt
      have f0 := O2.free (k * 2)
      have f1 := O2.free (k * 2 + 1)
      have B2 := hide (((hb.trans (hb2.mono hb.size)).setCell (p := ⟨w.heap.size, k * 2, none⟩) (Nat.le_refl _) (.int .i64 pd.at_)).setCell (p := ⟨w.heap.size, k * 2 + 1, none⟩) (Nat.le_refl _) (.slice a2 pd.xs.length c2))
      clear O2 hb hb2 d0 d1 hO hA r2 hm
      go_wp2_with fail
      go_roundw
      case rel => exact ⟨k + 1, by omega, by go_num, ⟨_, _, _, unhide S, unhide hW2, unhide A2⟩, unhide B2⟩
      case measure => simp [intOf]; omega
    · obtain rfl : k = n := by omega
      go_wp2_with fail
      go_ret
      exact ⟨_, W, A, C, rfl, Nat.le_refl _, unhide hO, fun i hi => unhide hW i hi (by rw [← unhide L]; exact hi), unhide hA, hb⟩

/-- A device in memory of the call's own, from block 'lo' on. -/
def FMine (w : World) (lo : Nat) (ah : Option Addr) (nh ch g nw : Nat) (xs : List Int) (ws : List WD) : Prop :=
  (∃ b, ah = some ⟨b, 0, none⟩) ∧ xs.length = nh ∧ ws.length = nw ∧ Mine w lo (.slice ah nh ch) xs ∧ lo ≤ g ∧ ∃ W A C, WOwn w g nw W A C ∧ (∀ i (hi : i < ws.length), W i = ws[i]) ∧ (∀ i x, A i = some x → lo ≤ x.block) ∧ ∀ x, ah = some x → x.block ≠ g ∧ ∀ i y, A i = some y → x.block ≠ y.block
theorem mine_below {w w' : World} {B : Nat} {v : Value} {xs : List Int} (h : Mine w B v xs) (hb : Below w.heap.size w w') : Mine w' B v xs := by
  obtain ⟨a, c, e, h1, h2, h3, h4⟩ := h
  exact ⟨a, c, e, h1, h2, row_grow h3 hb, fun x hx => ⟨(h4 x hx).1, Nat.lt_of_lt_of_le (h4 x hx).2.1 hb.size, fun j => (hb.frozen (p := ⟨x.block, j, none⟩) (h4 x hx).2.1).trans ((h4 x hx).2.2 j)⟩⟩
theorem FMine.below {w w' : World} {lo : Nat} {ah : Option Addr} {nh ch g nw : Nat} {xs : List Int} {ws : List WD} (h : FMine w lo ah nh ch g nw xs ws) (hb : Below w.heap.size w w') : FMine w' lo ah nh ch g nw xs ws := by
  obtain ⟨h0, h1, h2, h3, h4, W, A, C, h5, h6, h7, h8⟩ := h
  exact ⟨h0, h1, h2, mine_below h3 hb, h4, W, A, C, h5.below hb, h6, h7, h8⟩
theorem Kept.mine {S : Nat → Prop} {w w' : World} {B : Nat} {v : Value} {xs : List Int} (hk : Kept S w w') (h : Mine w B v xs) (hS : ∀ k, B ≤ k → S k) : Mine w' B v xs := by
  obtain ⟨a, c, e, h1, h2, h3, h4⟩ := h
  exact ⟨a, c, e, h1, h2, hk.row h3 (fun x hx => hS _ (h4 x hx).1), fun x hx => ⟨(h4 x hx).1, Nat.lt_of_lt_of_le (h4 x hx).2.1 hk.1, fun j => (hk.frozen (p := ⟨x.block, j, none⟩) (hS _ (h4 x hx).1) (h4 x hx).2.1).trans ((h4 x hx).2.2 j)⟩⟩
theorem FMine.kept {S : Nat → Prop} {w w' : World} {lo : Nat} {ah : Option Addr} {nh ch g nw : Nat} {xs : List Int} {ws : List WD} (h : FMine w lo ah nh ch g nw xs ws) (hk : Kept S w w') (hS : ∀ k, lo ≤ k → S k) : FMine w' lo ah nh ch g nw xs ws := by
  obtain ⟨h0, h1, h2, h3, h4, W, A, C, h5, h6, h7, h8⟩ := h
  exact ⟨h0, h1, h2, hk.mine h3 hS, h4, W, A, C, h5.kept hk (hS _ h4) (fun i _ x hx => hS _ (h7 i x hx)), h6, h7, h8⟩
theorem FMine.mono {w : World} {lo lo' : Nat} {ah : Option Addr} {nh ch g nw : Nat} {xs : List Int} {ws : List WD} (h : FMine w lo ah nh ch g nw xs ws) (hl : lo' ≤ lo) : FMine w lo' ah nh ch g nw xs ws := by
  obtain ⟨h0, h1, h2, h3, h4, W, A, C, h5, h6, h7, h8⟩ := h
  exact ⟨h0, h1, h2, mine_mono h3 hl, Nat.le_trans hl h4, W, A, C, h5, h6, fun i x hx => Nat.le_trans hl (h7 i x hx), h8⟩
theorem FMine.row {w : World} {lo : Nat} {ah : Option Addr} {nh ch g nw : Nat} {xs : List Int} {ws : List WD} (h : FMine w lo ah nh ch g nw xs ws) : Row w ah nh xs := by
  obtain ⟨_, h1, _, ⟨a, c, e, _, _, h3, _⟩, _⟩ := h
  injection e with e1 e2
  subst e1
  rw [← h1]; exact h3
theorem FMine.wrow {w : World} {lo : Nat} {ah : Option Addr} {nh ch g nw : Nat} {xs : List Int} {ws : List WD} (h : FMine w lo ah nh ch g nw xs ws) : WRow w (some ⟨g, 0, none⟩) nw ws := by
  obtain ⟨_, _, h2, _, _, W, A, C, h5, h6, _⟩ := h
  exact h5.wrow h2 h6

set_option maxHeartbeats 1000000 in
theorem toFlash_any (ah : Option Addr) (nh ch : Nat) (aw : Option Addr) (nw cw : Nat) (xs : List Int) (ws : List WD) (w : World) (hnh : nh ≤ 1048576) (hn : nw ≤ 1048576) (hx : ∀ i (hi : i < ws.length), ws[i].xs.length ≤ 1048576) (hh : Row w ah nh xs) (hr : WRow w aw nw ws) :
    Calls Tryz.prog 28 #[fv ah nh ch aw nw cw] w fun e w' => ∃ ah' ch' g, e = .returned (fv ah' nh ch' (some ⟨g, 0, none⟩) nw nw) ∧ FMine w' w.heap.size ah' nh ch' g nw xs ws ∧ Below w.heap.size w w' := by
  have hb0 : ∀ o1 o2 o3, Below w.heap.size w (((w.alloc o1).alloc o2).alloc o3) := fun o1 o2 o3 => (((Below.refl w.heap.size w).alloc (Nat.le_refl _) _).alloc (by simp) _).alloc (by simp; omega) _
  have R1 := hide fun o1 o2 o3 => row_grow hh (hb0 o1 o2 o3)
  have R2 := hide hr
  have hxl := hide hh.1
  have hwl := hide hr.1
  have X := hide hx
  clear hh hr hx
  go_enter Tryz.func28, Tryz.ntmps28
  go_wp2_with fail
  refine (toByteS_at ah nh ch xs _ hnh (unhide R1 _ _ _)).mono ?_
  clear R1
  rintro e w1 ⟨rfl, hm, hb⟩
  obtain ⟨a1, c1, ea, m1, m2, m3, m4⟩ := hm
  have ha1 : ∃ b, a1 = some ⟨b, 0, none⟩ := by injection ea with e1; exact ⟨_, e1.symm⟩
  have hA1 := hide ha1
  clear ha1
  rw [ea]
  clear ea
  rw [unhide hxl] at m1 m3 ⊢
  have hs := hb.size
  simp at hs
  have M := hide (show Mine w1 (w.heap.size + 1 + 1 + 1) (.slice a1 nh c1) xs from ⟨a1, c1, by rw [unhide hxl], by rw [unhide hxl]; exact m1, m2, by rw [unhide hxl]; exact m3, fun x hx => ⟨by have := (m4 x hx).1; simpa using this, (m4 x hx).2⟩⟩)
  clear m1 m2 m3 m4
  have d1 : w1.cell? ⟨w.heap.size, 1, none⟩ = some (.slice aw nw cw) := (hb.cell (p := ⟨w.heap.size, 1, none⟩) (by simp; omega)).trans ((cell_old (by simp; omega)).trans ((cell_old (by simp)).trans ((cell_new rfl).trans rfl)))
  have o0 : w1.cell? ⟨w.heap.size + 1 + 1, 0, none⟩ = some (.slice none 0 0) := (hb.cell (p := ⟨w.heap.size + 1 + 1, 0, none⟩) (by simp)).trans ((cell_new (by simp)).trans rfl)
  have o1 : w1.cell? ⟨w.heap.size + 1 + 1, 1, none⟩ = some (.slice none 0 0) := (hb.cell (p := ⟨w.heap.size + 1 + 1, 1, none⟩) (by simp)).trans ((cell_new (by simp)).trans rfl)
  have g0 : w1.cell? ⟨w.heap.size + 1, 0, none⟩ = some (.slice none 0 0) := (hb.cell (p := ⟨w.heap.size + 1, 0, none⟩) (by simp)).trans ((cell_old (by simp)).trans ((cell_new (by simp)).trans rfl))
  have g1 : w1.cell? ⟨w.heap.size + 1, 1, none⟩ = some (.slice none 0 0) := (hb.cell (p := ⟨w.heap.size + 1, 1, none⟩) (by simp)).trans ((cell_old (by simp)).trans ((cell_new (by simp)).trans rfl))
  have fo : ∀ j, w1.frozen? ⟨w.heap.size + 1 + 1, j, none⟩ = false := fun j => (hb.frozen (p := ⟨w.heap.size + 1 + 1, j, none⟩) (by simp)).trans (frozen_new (by simp))
  have fg : ∀ j, w1.frozen? ⟨w.heap.size + 1, j, none⟩ = false := fun j => (hb.frozen (p := ⟨w.heap.size + 1, j, none⟩) (by simp)).trans ((frozen_old (by simp)).trans (frozen_new (by simp)))
  have BB := (hb0 (.cells #[.slice ah nh ch, .slice aw nw cw] 83) (.cells #[.slice none 0 0, .slice none 0 0] 32) (.cells #[.slice none 0 0, .slice none 0 0] 32)).trans (hb.mono (by simp; omega))
  clear hb hb0
  -- behind the first store
  obtain ⟨wx, hwx⟩ : ∃ wx, wx = w1.setCell ⟨w.heap.size + 1 + 1, 0, none⟩ (.slice a1 nh c1) := ⟨_, rfl⟩
  have x0 : wx.cell? ⟨w.heap.size + 1 + 1, 0, none⟩ = some (.slice a1 nh c1) := by rw [hwx]; exact World.cell?_setCell_same _ _ _ o0
  have ot : ∀ p : Addr, p ≠ ⟨w.heap.size + 1 + 1, 0, none⟩ → wx.cell? p = w1.cell? p := fun p hp => by rw [hwx]; exact World.cell?_setCell_other _ _ _ _ (fun e => hp e.symm)
  have x1 := (ot ⟨w.heap.size + 1 + 1, 1, none⟩ (by simp)).trans o1
  have y1 := (ot ⟨w.heap.size, 1, none⟩ (by simp)).trans d1
  have z0 := (ot ⟨w.heap.size + 1, 0, none⟩ (by simp)).trans g0
  have z1 := (ot ⟨w.heap.size + 1, 1, none⟩ (by simp)).trans g1
  have ff : ∀ p, wx.frozen? p = w1.frozen? p := fun p => by rw [hwx]; simp
  have BX := hide (show Below w.heap.size w wx by rw [hwx]; exact BB.setCell (p := ⟨w.heap.size + 1 + 1, 0, none⟩) (by simp; omega) _)
  have hsx : w.heap.size + 1 + 1 + 1 ≤ wx.heap.size := by rw [hwx]; simpa using hs
  have MX := hide (show Mine wx (w.heap.size + 1 + 1 + 1) (.slice a1 nh c1) xs from by
    obtain ⟨a, c, e, m1, m2, m3, m4⟩ := unhide M
    refine ⟨a, c, e, m1, m2, m3.of_cells fun y hy p hp => ot p (fun e => by have := (m4 y hy).1; rw [← hp, e] at this; simp at this; omega), fun y hy => ⟨(m4 y hy).1, by rw [hwx]; simpa using (m4 y hy).2.1, fun j => (ff _).trans ((m4 y hy).2.2 j)⟩⟩)
  have RX := hide ((unhide R2).below (unhide BX))
  have fo0 := fo 0
  clear M R2 BB ot hs g0 g1
  go_wp2_with fail
  rw [← hwx]
  clear hwx o0 o1 fo0 d1
  refine (toWriteS_any aw nw cw ws wx hn (unhide X) (unhide RX)).mono ?_
  rintro e w2 ⟨g, W, A, C, rfl, hg, hO, hW, hA, hb⟩
  have hlt1 : w.heap.size + 1 + 1 < wx.heap.size := by omega
  have p0 := (hb.cell (p := ⟨w.heap.size + 1 + 1, 0, none⟩) hlt1).trans x0
  have p1 := (hb.cell (p := ⟨w.heap.size + 1 + 1, 1, none⟩) hlt1).trans x1
  have q0 := (hb.cell (p := ⟨w.heap.size + 1, 0, none⟩) (show w.heap.size + 1 < wx.heap.size by omega)).trans z0
  have q1 := (hb.cell (p := ⟨w.heap.size + 1, 1, none⟩) (show w.heap.size + 1 < wx.heap.size by omega)).trans z1
  have f1 : w2.frozen? ⟨w.heap.size + 1 + 1, 1, none⟩ = false := (hb.frozen (p := ⟨w.heap.size + 1 + 1, 1, none⟩) hlt1).trans ((ff _).trans (fo 1))
  have k0 : w2.frozen? ⟨w.heap.size + 1, 0, none⟩ = false := (hb.frozen (p := ⟨w.heap.size + 1, 0, none⟩) (show w.heap.size + 1 < wx.heap.size by omega)).trans ((ff _).trans (fg 0))
  have k1 : w2.frozen? ⟨w.heap.size + 1, 1, none⟩ = false := (hb.frozen (p := ⟨w.heap.size + 1, 1, none⟩) (show w.heap.size + 1 < wx.heap.size by omega)).trans ((ff _).trans (fg 1))
  have F2 := hide (show FMine w2 (w.heap.size + 1 + 1 + 1) a1 nh c1 g nw xs ws from ⟨unhide hA1, unhide hxl, unhide hwl, mine_below (unhide MX) hb, by omega, W, A, C, hO, hW, fun i x hx => by have := hA i x hx; omega, fun x hx => by
    obtain ⟨a, c, e, _, _, _, m4⟩ := unhide MX
    injection e with e1
    have := (m4 x (e1 ▸ hx)).2.1
    exact ⟨by omega, fun i y hy => by have := hA i y hy; omega⟩⟩)
  have B2 := hide ((unhide BX).trans (hb.mono (by omega)))
  have hs2 : w.heap.size + 1 < w2.heap.size := by have := hb.size; omega
  clear x0 x1 z0 z1 ff MX BX RX hO hW hA hb fo fg
  go_wp2_with fail
  have B3 := hide ((((unhide B2).setCell (p := ⟨w.heap.size + 1 + 1, 1, none⟩) (by simp; omega) (.slice (some ⟨g, 0, none⟩) nw nw)).setCell (p := ⟨w.heap.size + 1, 0, none⟩) (by simp) (.slice a1 nh c1)).setCell (p := ⟨w.heap.size + 1, 1, none⟩) (by simp) (.slice (some ⟨g, 0, none⟩) nw nw))
  refine bodyPost_ret (v := fv a1 nh c1 (some ⟨g, 0, none⟩) nw nw) (by simp [results, Tryz.results28, go_sem, q0, q1]) rfl ⟨a1, c1, g, rfl, ?_, unhide B3⟩
  exact ((unhide F2).kept (S := fun k => w.heap.size + 1 + 1 + 1 ≤ k) (((Kept.set (by simp) _ _ _).trans (Kept.set (by simp; omega) _ _ _)).trans (Kept.set (by simp; omega) _ _ _)) (fun _ h => h)).mono (by omega)
end Go.Proofs.YtcflepnckjappaaGreat

namespace Go.Proofs.YtcflepnckjappaaGreat
end Go.Proofs.YtcflepnckjappaaGreat

namespace Go.Proofs.YtcflepnckjappaaGreat
open Go.RowKit

theorem WOwn.setAt {w : World} {g n k : Nat} {W : Nat → WD} {A : Nat → Option Addr} {C : Nat → Nat} (h : WOwn w g n W A C) (hk : k < n) (x : Int) : WOwn (w.setCell ⟨g, k * 2, none⟩ (.int .i64 x)) g n (updW W k ⟨x, (W k).xs⟩) A C := by
  have ne : ∀ p q : Nat, p ≠ q → (⟨g, p, none⟩ : Addr) ≠ ⟨g, q, none⟩ := fun p q hpq e => hpq (by injection e)
  have nb : ∀ p : Addr, p.block ≠ g → (w.setCell ⟨g, k * 2, none⟩ (.int .i64 x)).cell? p = w.cell? p := fun p hp => World.cell?_setCell_other _ _ _ _ (by intro e; rw [← e] at hp; exact hp rfl)
  have hx : ∀ i, (updW W k ⟨x, (W k).xs⟩ i).xs = (W i).xs := fun i => by
    unfold updW
    split
    · rename_i e; rw [e]
    · rfl
  refine ⟨by simpa using h.lt, fun j => by simpa using h.free j, fun i hi => ?_, fun i hi => ?_, fun i hi => ?_, fun i hi => ?_, fun i hi y hy => ⟨(h.own i hi y hy).1, by simpa using (h.own i hi y hy).2.1, fun j => by simpa using (h.own i hi y hy).2.2 j⟩, h.apart⟩
  · unfold updW
    by_cases e : i = k
    · subst e
      rw [if_pos rfl]
      exact World.cell?_setCell_same _ _ _ (h.at_ i hi)
    · rw [if_neg e, World.cell?_setCell_other _ _ _ _ (ne _ _ (by omega))]
      exact h.at_ i hi
  · rw [hx, World.cell?_setCell_other _ _ _ _ (ne _ _ (by omega))]
    exact h.data i hi
  · rw [hx]; exact h.len i hi
  · rw [hx]; exact (h.row i hi).of_cells fun y hy p hp => nb p (by rw [hp]; exact (h.own i hi y hy).1)
theorem WOwn.marked {w w' : World} {g n k : Nat} {W : Nat → WD} {A : Nat → Option Addr} {C : Nat → Nat} {ys : List Int} (h : WOwn w g n W A C) (hk : k < n) (ht : Touch (A k) w w') (hr : Row w' (A k) (W k).xs.length ys) : WOwn w' g n (updW W k ⟨(W k).at_, ys⟩) A C := by
  have hl := hr.1
  have hs := ht.size
  have kept : ∀ b, (∀ x, A k = some x → b ≠ x.block) → w'.heap[b]? = w.heap[b]? := fun b hb => by
    rcases ht with rfl | ⟨x, hx, ho⟩
    · rfl
    · exact ho.block b (hb x hx)
  have fz : ∀ a, w'.frozen? a = w.frozen? a := fun a => by
    rcases ht with rfl | ⟨x, hx, ho⟩
    · rfl
    · exact ho.frozen a
  have hg : w'.heap[g]? = w.heap[g]? := kept g (fun x hx e => (h.own k hk x hx).1 e.symm)
  have cg : ∀ j, w'.cell? ⟨g, j, none⟩ = w.cell? ⟨g, j, none⟩ := fun j => World.cell?_of_block (w := w) (a := ⟨g, j, none⟩) hg
  refine ⟨by rw [hs]; exact h.lt, fun j => (fz _).trans (h.free j), fun i hi => ?_, fun i hi => ?_, fun i hi => ?_, fun i hi => ?_, fun i hi x hx => ⟨(h.own i hi x hx).1, by rw [hs]; exact (h.own i hi x hx).2.1, fun j => (fz _).trans ((h.own i hi x hx).2.2 j)⟩, h.apart⟩
  · rw [cg]
    unfold updW
    by_cases e : i = k
    · subst e; rw [if_pos rfl]; exact h.at_ i hi
    · rw [if_neg e]; exact h.at_ i hi
  · rw [cg]
    unfold updW
    by_cases e : i = k
    · subst e; rw [if_pos rfl, hl]; exact h.data i hi
    · rw [if_neg e]; exact h.data i hi
  · unfold updW
    by_cases e : i = k
    · subst e; rw [if_pos rfl, hl]; exact h.len i hi
    · rw [if_neg e]; exact h.len i hi
  · unfold updW
    by_cases e : i = k
    · subst e; rw [if_pos rfl, hl]; exact hr
    · rw [if_neg e]
      exact (h.row i hi).of_cells fun x hx p hp => World.cell?_of_block (w := w) (kept p.block (fun y hy => by rw [hp]; exact h.apart i k hi hk e x y hx hy))
/-- The blocks of S hold what they held, and nothing else of the world has changed. -/
structure Band (S : Nat → Prop) (w w' : World) : Prop where
  os : w'.os = w.os
  tape : w'.tape = w.tape
  output : w'.output = w.output
  kept : Kept S w w'
theorem Band.refl (S : Nat → Prop) (w : World) : Band S w w := ⟨rfl, rfl, rfl, Kept.refl _ _⟩
theorem Band.trans {S : Nat → Prop} {w1 w2 w3 : World} (h : Band S w1 w2) (k : Band S w2 w3) : Band S w1 w3 := ⟨k.os.trans h.os, k.tape.trans h.tape, k.output.trans h.output, h.kept.trans k.kept⟩
theorem Band.set {S : Nat → Prop} {b : Nat} (h : ¬ S b) (w : World) (o : Nat) (v : Value) : Band S w (w.setCell ⟨b, o, none⟩ v) := ⟨rfl, rfl, rfl, Kept.set h _ _ _⟩
theorem Band.touch {S : Nat → Prop} {a : Option Addr} {w w' : World} (ht : Touch a w w') (h : ∀ x, a = some x → ¬ S x.block) : Band S w w' := by
  rcases ht with rfl | ⟨x, hx, ho⟩
  · exact Band.refl _ _
  · exact ⟨ho.os, ho.tape, ho.output, by rw [ho.size]; exact Nat.le_refl _, fun k hk _ => ho.block k (fun e => h x hx (e ▸ hk))⟩
theorem Band.grow {S : Nat → Prop} {w w' : World} (h : Below w.heap.size w w') : Band S w w' := ⟨h.os, h.tape, h.output, Kept.grow h⟩
theorem Band.below {S : Nat → Prop} {w w' : World} {B : Nat} (h : Band S w w') (hB : B ≤ w.heap.size) (hS : ∀ k, k < B → S k) : Below B w w' := ⟨h.os, h.tape, h.output, h.kept.1, fun k hk => h.kept.2 k (hS k hk) (by omega)⟩
theorem Band.mono {S T : Nat → Prop} {w w' : World} (h : Band S w w') (hS : ∀ k, T k → S k) : Band T w w' := ⟨h.os, h.tape, h.output, h.kept.mono hS⟩

set_option maxHeartbeats 2000000 in
theorem markWriteS_any (S : Nat → Prop) (g n c k0 : Nat) (W : Nat → WD) (A : Nat → Option Addr) (C : Nat → Nat) (w : World) (hn : n ≤ 1048576) (hk0 : k0 ≤ 10000000) (h : WOwn w g n W A C) (hl : ∀ i, i < n → (W i).xs.length ≤ 1048576) (hg : ¬ S g) (hA : ∀ i, i < n → ∀ x, A i = some x → ¬ S x.block) :
    Calls Tryz.prog 102 #[.slice (some ⟨g, 0, none⟩) n c, .int .i64 (k0 : Int)] w fun e w' => ∃ k : Nat, e = .returned (.int .i64 (k : Int)) ∧ Band S w w' ∧ k ≤ 2000000000000 := by
  have H := hide h
  have HL := hide hl
  have HA := hide hA
  clear h hl hA
  go_enter Tryz.func102, Tryz.ntmps102
  go_wp2_with fail
  go_loopw [1, 5] (fun q i wr => ∃ (k m : Nat) (V : Nat → WD), k ≤ n ∧ i = .int .i64 k ∧ q = .int .i64 (m : Int) ∧ m ≤ 10000000 + k * 1048577 ∧ Hid (WOwn wr g n V A C) ∧ Hid (∀ i, i < n → (V i).xs.length ≤ 1048576) ∧ Band S w wr) (fun _ i _ => n - (intOf i).toNat)
  case atStart => exact ⟨0, k0, W, Nat.zero_le _, rfl, rfl, by omega, unhide H, unhide HL, Band.refl _ _⟩
  case round =>
    clear H HL
    obtain ⟨k, m, V, hk, rfl, rfl, hm, hO, hL, hB⟩ := hrel
    by_cases hlt : k < n
    · have e0 := (unhide hO).at_ k hlt
      have f0 := (unhide hO).free (k * 2)
      have O1 := hide ((unhide hO).setAt hlt (m : Int))
      have B1 := hide (hB.trans (Band.set hg wr (k * 2) (.int .i64 (m : Int))))
      have hl1 : (V k).xs.length ≤ 1048576 := unhide hL k hlt
      have e1 := (unhide hO).data k hlt
      have hx : ∀ i, (updW V k ⟨(m : Int), (V k).xs⟩ i).xs = (V i).xs := fun i => by
        unfold updW
        split
        · rename_i e; rw [e]
        · rfl
      have R1 := (unhide O1).row k hlt
      have F1 := fun x hx' => ((unhide O1).own k hlt x hx').2.2
      rw [hx] at R1
      have HR := hide R1
      have HF := hide F1
      have L1 := hide (show ∀ i, i < n → (updW V k ⟨(m : Int), (V k).xs⟩ i).xs.length ≤ 1048576 from fun i hi => by rw [hx]; exact unhide hL i hi)
      clear hO hB hL R1 F1
      go_wp2_with fail
      refine (markByteS_any (A k) (V k).xs.length (C k) (V k).xs ((m : Int) + 1) _ (by omega) (by omega) (by omega) (unhide HR) (unhide HF)).mono ?_
      rintro e w2 ⟨rfl, r2, t2⟩
      have O2 := hide ((unhide O1).marked hlt t2 (by rw [hx]; exact r2))
      have B2 := hide ((unhide B1).trans (Band.touch t2 (unhide HA k hlt)))
      have hml := marks_length ((m : Int) + 1) (V k).xs.length
      have L2 := hide (show ∀ i, i < n → (updW (updW V k ⟨(m : Int), (V k).xs⟩) k ⟨(updW V k ⟨(m : Int), (V k).xs⟩ k).at_, marks ((m : Int) + 1) (V k).xs.length⟩ i).xs.length ≤ 1048576 from fun i hi => by
        by_cases e : i = k
        · simp only [updW, e, if_true]; rw [hml]; exact hl1
        · simp only [updW, e, if_false]; exact (by have := unhide L1 i hi; rw [hx] at this; exact this))
      clear O1 B1 L1 r2 t2 HR HF hx hml e0 e1 f0
      go_wp2_with fail
      go_roundw
      case rel => exact ⟨k + 1, m + 1 + (V k).xs.length, _, by omega, by go_num, by go_num, by omega, unhide O2, unhide L2, unhide B2⟩
      case measure => simp [intOf]; omega
    · obtain rfl : k = n := by omega
      go_wp2_with fail
      go_ret
      exact ⟨m, rfl, hB, by omega⟩

/-- A device in memory of the call's own, from block 'lo' on, ahead of block 'hi'. -/
def FIn (w : World) (lo hi : Nat) (ah : Option Addr) (nh ch g nw : Nat) (xs : List Int) (ws : List WD) : Prop :=
  (∃ b, ah = some ⟨b, 0, none⟩) ∧ xs.length = nh ∧ ws.length = nw ∧ Mine w lo (.slice ah nh ch) xs ∧ (∀ x, ah = some x → x.block < hi) ∧ lo ≤ g ∧ g < hi ∧ ∃ W A C, WOwn w g nw W A C ∧ (∀ i (hi : i < ws.length), W i = ws[i]) ∧ (∀ i x, A i = some x → lo ≤ x.block) ∧ (∀ i, i < nw → ∀ x, A i = some x → x.block < hi) ∧ ∀ x, ah = some x → x.block ≠ g ∧ ∀ i y, A i = some y → x.block ≠ y.block
theorem FIn.below {w w' : World} {lo hi : Nat} {ah : Option Addr} {nh ch g nw : Nat} {xs : List Int} {ws : List WD} (h : FIn w lo hi ah nh ch g nw xs ws) (hb : Below w.heap.size w w') : FIn w' lo hi ah nh ch g nw xs ws := by
  obtain ⟨h0, h1, h2, h3, h3', h4, h4', W, A, C, h5, h6, h7, h7', h8⟩ := h
  exact ⟨h0, h1, h2, mine_below h3 hb, h3', h4, h4', W, A, C, h5.below hb, h6, h7, h7', h8⟩
theorem FIn.mine {w : World} {lo hi : Nat} {ah : Option Addr} {nh ch g nw : Nat} {xs : List Int} {ws : List WD} (h : FIn w lo hi ah nh ch g nw xs ws) : FMine w lo ah nh ch g nw xs ws := by
  obtain ⟨h0, h1, h2, h3, h3', h4, h4', W, A, C, h5, h6, h7, h7', h8⟩ := h
  exact ⟨h0, h1, h2, h3, h4, W, A, C, h5, h6, h7, h8⟩
theorem FMine.fin {w : World} {lo : Nat} {ah : Option Addr} {nh ch g nw : Nat} {xs : List Int} {ws : List WD} (h : FMine w lo ah nh ch g nw xs ws) : FIn w lo w.heap.size ah nh ch g nw xs ws := by
  obtain ⟨h0, h1, h2, h3, h4, W, A, C, h5, h6, h7, h8⟩ := h
  refine ⟨h0, h1, h2, h3, fun x hx => ?_, h4, h5.lt, W, A, C, h5, h6, h7, fun i hi x hx => (h5.own i hi x hx).2.1, h8⟩
  obtain ⟨a, c, e, _, _, _, m4⟩ := h3
  injection e with e1
  exact (m4 x (e1 ▸ hx)).2.1
set_option maxRecDepth 100000 in
set_option maxHeartbeats 2000000 in
theorem markFlash_any (lo hi : Nat) (ah : Option Addr) (nh ch g nw cw : Nat) (xs : List Int) (ws : List WD) (w : World) (hnh : nh ≤ 1048576) (hn : nw ≤ 1048576) (hx : ∀ i (hi : i < ws.length), ws[i].xs.length ≤ 1048576) (h : FIn w lo hi ah nh ch g nw xs ws) (hhi : hi ≤ w.heap.size) :
    Calls Tryz.prog 31 #[fv ah nh ch (some ⟨g, 0, none⟩) nw cw, .int .i64 1] w fun e w' => ∃ k : Nat, e = .returned (.int .i64 (k : Int)) ∧ Band (fun b => b < lo ∨ hi ≤ b) w w' ∧ k ≤ 2000000000000 := by
  obtain ⟨_, rfl, h2, ⟨a1, c1, e1, m1, m2, m3, m4⟩, h3, h4, h4', W, A, C, h5, h6, h7, h7', h8⟩ := h
  obtain ⟨rfl, rfl⟩ : ah = a1 ∧ ch = c1 := by injection e1 with e1 _ e3; exact ⟨e1, e3⟩
  clear e1
  have hb0 : ∀ o, Below w.heap.size w (w.alloc o) := fun o => (Below.refl _ _).alloc (Nat.le_refl _) _
  have HR := hide fun o => row_grow m3 (hb0 o)
  have HF := hide fun (o : Obj) (x : Addr) (hx : ah = some x) (j : Nat) => ((hb0 o).frozen (p := ⟨x.block, j, none⟩) (m4 x hx).2.1).trans ((m4 x hx).2.2 j)
  have HO := hide h5
  have H3 := hide (fun x hx => And.intro (m4 x hx).1 (h3 x hx))
  have H7 := hide (fun i hi x hx => And.intro (h7 i x hx) (h7' i hi x hx))
  have H8 := hide h8
  have HL := hide (show ∀ i, i < nw → (W i).xs.length ≤ 1048576 from fun i hi => by rw [h6 i (by omega)]; exact hx i (by omega))
  have H0 := hide hb0
  clear m1 m2 m3 m4 h3 h5 h6 h7 h7' h8 hx h2 hb0
  have hR1 := fun o => markByteS_any ah xs.length ch xs 1 (w.alloc o) (by omega) (by omega) (by omega) (unhide HR o) (unhide HF o)
  have HC := hide hR1
  clear hR1
  go_enter Tryz.func31, Tryz.ntmps31
  go_wp2_with fail
  refine (unhide HC _).mono ?_
  rintro e w1 ⟨rfl, r1, t1⟩
  have hsz := t1.size
  simp at hsz
  have B1 := hide ((Band.grow (S := fun b => b < lo ∨ hi ≤ b) (unhide H0 (.cells #[.slice ah xs.length ch, .slice (some ⟨g, 0, none⟩) nw cw] 32))).trans (Band.touch t1 (fun x hx => by have := unhide H3 x hx; omega)))
  have hbl : ∀ b, (∀ x, ah = some x → b ≠ x.block) → b < w.heap.size → w1.heap[b]? = w.heap[b]? := fun b hb hl => by
    rw [← Below.heap_alloc w (.cells #[.slice ah xs.length ch, .slice (some ⟨g, 0, none⟩) nw cw] 32) b hl]
    rcases t1 with rfl | ⟨x, hx, ho⟩
    · rfl
    · exact ho.block b (hb x hx)
  have O1 := hide ((unhide HO).kept (S := fun b => b < w.heap.size ∧ ∀ x, ah = some x → b ≠ x.block) ⟨by omega, fun b hb hl => hbl b hb.2 hl⟩ ⟨(unhide HO).lt, fun x hx e => (unhide H8 x hx).1 e.symm⟩ (fun i hi x hx => ⟨((unhide HO).own i hi x hx).2.1, fun y hy e => (unhide H8 y hy).2 i x hx e.symm⟩))
  have p1 : w1.cell? ⟨w.heap.size, 1, none⟩ = some (.slice (some ⟨g, 0, none⟩) nw cw) := by
    rcases t1 with rfl | ⟨x, hx, ho⟩
    · exact (cell_new rfl).trans rfl
    · have := (unhide H3 x hx).2
      exact (ho.cell (p := ⟨w.heap.size, 1, none⟩) (by simp; omega)).trans ((cell_new rfl).trans rfl)
  have hcast : (1 : Int) + (xs.length : Int) = ((1 + xs.length : Nat) : Int) := by omega
  rw [hcast]
  clear HC r1 t1 HR HF hcast hbl
  go_wp2_with fail
  refine (markWriteS_any (fun b => b < lo ∨ hi ≤ b) g nw cw (1 + xs.length) W A C w1 hn (by omega) (unhide O1) (unhide HL) (by omega) (fun i hi' x hx => by have := unhide H7 i hi' x hx; omega)).mono ?_
  rintro e w2 ⟨k, rfl, hb2, hkb⟩
  have B2 := hide ((unhide B1).trans hb2)
  clear hb2 p1
  go_wp2_with fail
  go_ret
  exact ⟨k, rfl, unhide B2, hkb⟩
end Go.Proofs.YtcflepnckjappaaGreat

namespace Go.Proofs.YtcflepnckjappaaGreat
open Go.RowKit

/-- A slice of bools as it reads. -/
def BRow (w : World) (a : Option Addr) (n : Nat) (bs : List Bool) : Prop :=
  bs.length = n ∧ ∀ i, i < n → ∃ b off, a = some ⟨b, off, none⟩ ∧ w.cell? ⟨b, off + i, none⟩ = some (.bool (bs.getD i false))
theorem BRow.grow {w w' : World} {a : Option Addr} {n : Nat} {bs : List Bool} (h : BRow w a n bs) (hb : Below w.heap.size w w') : BRow w' a n bs := by
  refine ⟨h.1, fun i hi => ?_⟩
  obtain ⟨b, off, e, hc⟩ := h.2 i hi
  exact ⟨b, off, e, (hb.cell (p := ⟨b, off + i, none⟩) (cell_lt hc)).trans hc⟩
theorem BRow.kept {S : Nat → Prop} {w w' : World} {a : Option Addr} {n : Nat} {bs : List Bool} (h : BRow w a n bs) (hk : Kept S w w') (ha : ∀ x, a = some x → S x.block) : BRow w' a n bs := by
  refine ⟨h.1, fun i hi => ?_⟩
  obtain ⟨b, off, e, hc⟩ := h.2 i hi
  exact ⟨b, off, e, (hk.cell (p := ⟨b, off + i, none⟩) (ha ⟨b, off, none⟩ e) (cell_lt hc)).trans hc⟩
end Go.Proofs.YtcflepnckjappaaGreat

namespace Go.Proofs.YtcflepnckjappaaGreat
open Go.RowKit

theorem Tryz.infoBool : (Tryz.prog.info? 4).map (fun i => (i.zero, i.size, i.bytes)) = some (some (.bool false), 1, 1) := by kernel_rfl
/-- A slice of bools of the call's own: one block, none of it frozen. -/
def BMine (w : World) (g n : Nat) (bs : List Bool) : Prop := BRow w (some ⟨g, 0, none⟩) n bs ∧ ∀ j, w.frozen? ⟨g, j, none⟩ = false
theorem BMine.grow {w w' : World} {g n : Nat} {bs : List Bool} (h : BMine w g n bs) (hg : g < w.heap.size) (hb : Below w.heap.size w w') : BMine w' g n bs :=
  ⟨h.1.grow hb, fun j => (hb.frozen (p := ⟨g, j, none⟩) hg).trans (h.2 j)⟩
end Go.Proofs.YtcflepnckjappaaGreat

namespace Go.Proofs.YtcflepnckjappaaGreat
open Go.RowKit

/-- The versions that those images make. -/
def reD (pre : List ImD) : VsD := ⟨reN pre, reV pre, [], List.replicate 4 clS⟩
/-- What is kept along the images. -/
structure ReSt (W wr : World) (tb mb : Nat) (l f s : Sl) (hs : List SeH) (d : VsD) (pre : List ImD) : Prop where
  bel : Below W.heap.size W wr
  own : VzOwn wr W.heap.size l f s hs d
  box : wr.heap[tb]? = some (.cells (vzC d.next l f s) 29 (0, 0))
  row : wr.ownsRow W.heap.size 4 1 (.slice (some ⟨mb, 0, none⟩) 1001 1001) 1001 ((seenI pre).map Value.bool)
  tge : W.heap.size ≤ tb
def ReRes (L : List ImD) (w : World) (e : Ending) (w' : World) : Prop :=
  ∃ l f s ss, e = .returned (.tuple #[.agg (vzC (reN (reT [] L)) l f s), .int .i64 ((reT [] L).length : Int)]) ∧ VzOwn w' w.heap.size l f s ss (reD (reT [] L)) ∧ Below w.heap.size w w'
theorem ReSt.below {W wr u : World} {tb mb : Nat} {l f s : Sl} {hs : List SeH} {d : VsD} {pre : List ImD} (h : ReSt W wr tb mb l f s hs d pre) (hb : Below wr.heap.size wr u) : ReSt W u tb mb l f s hs d pre :=
  ⟨h.bel.trans (hb.mono h.bel.size), h.own.below hb, (hb.block tb (blk_lt h.box)).trans h.box, rb_ownsRow_below h.row hb, h.tge⟩
theorem Made.len8 {pre : List ImD} (h : Made pre) : (reV pre).length ≤ 8 * pre.length := by
  induction h with
  | nil => simp [reV]
  | @snoc pre X _ hx ih =>
    have h1 := fold_len (rcL X.id X.xs) (reV pre)
    have h2 := (wrV_ok (rcOK_facts (reOK_facts hx).1).1).1
    rw [reV_snoc, List.length_append, List.length_singleton]
    omega
theorem ReSt.mark {W w : World} {tb mb : Nat} {l f s : Sl} {hs : List SeH} {d : VsD} {pre : List ImD} (h : ReSt W w tb mb l f s hs d pre) (X : ImD) (hx : 0 ≤ X.id ∧ X.id < 1001) : ReSt W (w.setCell ⟨mb, X.id.toNat, none⟩ (.bool true)) tb mb l f s hs d (pre ++ [X]) := by
  obtain ⟨cur, kb⟩ := own_kind h.row (i := mb) rfl
  have hw := set1_wr w mb X.id.toNat (.bool true)
  refine ⟨h.bel.trans (WrB.below hw (fun i e => by rw [e]; exact (h.row.lt mb rfl).1) h.bel.size), ⟨own_keep h.own.vo kb (by decide) hw, own_keep h.own.fo kb (by decide) hw, h.own.so.keep hw (fun i hi e => by subst e; exact se_box h.own.so kb (by decide) (by decide) hi), h.own.ss, h.own.far⟩, (hw.block tb (blk_lt h.box) (fun e => own_box h.row h.box (by decide) (by rw [e]; rfl))).trans h.box, ?_, h.tge⟩
  rw [seenI_snoc pre X hx.1, List.map_set]
  exact (World.ownsRow.stored h.row X.id.toNat (.bool true)).1
theorem ReSt.nextS {W w : World} {tb mb : Nat} {l f s : Sl} {hs : List SeH} {d : VsD} {pre : List ImD} (h : ReSt W w tb mb l f s hs d pre) (v : Int) : ReSt W (w.setCell ⟨tb, 0, none⟩ (.int .i64 v)) tb mb l f s hs ⟨v, d.list, d.fen, d.ses⟩ pre := by
  have hw := set1_wr w tb 0 (.int .i64 v)
  refine ⟨h.bel.trans (WrB.below hw (fun i e => by rw [e]; exact h.tge) h.bel.size), ⟨own_keep h.own.vo h.box (by decide) hw, own_keep h.own.fo h.box (by decide) hw, h.own.so.keep hw (fun i hi e => by subst e; exact se_box h.own.so h.box (by decide) (by decide) hi), h.own.ss, h.own.far⟩, ?_, own_keep h.row h.box (by decide) hw, h.tge⟩
  have := heap_set h.box 0 (.int .i64 v)
  simpa using this
theorem ReSt.ins {W w w2 : World} {tb mb g q : Nat} {l f s : Sl} {hs : List SeH} {d : VsD} {L : List VerD} {pre : List ImD} (h : ReSt W w tb mb l f s hs d pre) (hb : Below w.heap.size w w2) (o2 : VOwns w2 w.heap.size (.slice (some ⟨g, 0, none⟩) L.length q) L) :
    ReSt W (w2.setCell ⟨tb, 1, none⟩ (.slice (some ⟨g, 0, none⟩) L.length q)) tb mb ⟨some ⟨g, 0, none⟩, L.length, q⟩ f s hs ⟨d.next, L, d.fen, d.ses⟩ pre := by
  have h2 := h.below hb
  have hw := set1_wr w2 tb 1 (.slice (some ⟨g, 0, none⟩) L.length q)
  refine ⟨h2.bel.trans (WrB.below hw (fun i e => by rw [e]; exact h.tge) h2.bel.size), ⟨own_keep (gd_base o2 h.bel.size) h2.box (by decide) hw, own_keep h2.own.fo h2.box (by decide) hw, h2.own.so.keep hw (fun i hi e => by subst e; exact se_box h2.own.so h2.box (by decide) (by decide) hi), h.own.ss, fun i hi hn => ?_⟩, ?_, own_keep h2.row h2.box (by decide) hw, h.tge⟩
  · have h3 := (o2.lt i hi).1
    have h4 := (h.own.so.lt i hn).2
    omega
  · have := heap_set h2.box 1 (.slice (some ⟨g, 0, none⟩) L.length q)
    simpa using this
theorem re_by {xs : List Int} (h : Bytes8 xs) : By xs := bytes8_mem.1 h
set_option maxRecDepth 100000 in
set_option maxHeartbeats 8000000 in
theorem l07Recover_any (a : Option Addr) (n c C : Nat) (hs : List ImH) (w : World) (hO : IOwn w C (.slice a n c) hs) (h8 : ∀ x ∈ hs.map (·.X), x.ok = true ∧ Bytes8 x.xs) (hcp : ∀ h ∈ hs, h.X.xs.length ≤ h.c) (hn : n ≤ 1000) :
    Calls Tryz.prog 93 #[.slice a n c] w fun e w' => ReRes (hs.map (·.X)) w e w' := by
  have hR := im_row hO
  have LN := hide (show hs.length = n by simpa using hR.1)
  have RW := hide (fun u (hu : Below w.heap.size w u) => lts_cells (GRow.below hR hu))
  have RD := hide (fun (i : Nat) (hi : i < hs.length) (u : World) (hu : Below w.heap.size w u) => l07Read_any (some ⟨hs[i].g, 0, none⟩) hs[i].X.xs.length hs[i].c hs[i].X.xs hs[i].X.id u ((hO.dat i hi).below hu).row (re_by (h8 _ (List.mem_map.2 ⟨_, List.getElem_mem hi, rfl⟩)).2) (hcp _ (List.getElem_mem hi)) (by have := (ok_small (h8 _ (List.mem_map.2 ⟨_, List.getElem_mem hi, rfl⟩)).1).1; omega) (fun x hx => (((hO.dat i hi).below hu).own x hx).2.1))
  have SM := hide (fun (i : Nat) (hi : i < hs.length) => ok_small (h8 _ (List.mem_map.2 ⟨_, List.getElem_mem hi, rfl⟩)).1)
  have BY := hide (fun (i : Nat) (hi : i < hs.length) => show By hs[i].X.xs from re_by (h8 _ (List.mem_map.2 ⟨_, List.getElem_mem hi, rfl⟩)).2)
  have K0 := hide (heap_alloc_new w (.cells #[.int .i64 0, .slice none 0 0, .slice none 0 0, .slice none 0 0] 29))
  have BZ := hide ((Below.refl w.heap.size w).alloc (Nat.le_refl _) (.cells #[.int .i64 0, .slice none 0 0, .slice none 0 0, .slice none 0 0] 29))
  have HN := hide (l06New_any (w.alloc (.cells #[.int .i64 0, .slice none 0 0, .slice none 0 0, .slice none 0 0] 29)))
  obtain ⟨i0, hi, hz0, hz1, hz2⟩ := info_parts Tryz.infoBool
  clear hR h8 hO hcp
  go_enter Tryz.func93, Tryz.ntmps93
  go_wp2_with fail
  generalize w.alloc (.cells #[.int .i64 0, .slice none 0 0, .slice none 0 0, .slice none 0 0] 29) = W at *
  refine (unhide HN).mono ?_
  rintro e w1 ⟨⟨la, ln, lc⟩, ⟨fa, fn, fc⟩, ⟨sa, sn, sc⟩, ss, rfl, hO, hb1⟩
  unfold vzC
  simp only
  have e1 : newV.next = 1 := rfl
  rw [e1]
  have bT := (Below.refl w1.heap.size w1).alloc (Nat.le_refl _) (.cells #[.int .i64 1, .slice la ln lc, .slice fa fn fc, .slice sa sn sc] 29)
  have kT := heap_alloc_new w1 (.cells #[.int .i64 1, .slice la ln lc, .slice fa fn fc, .slice sa sn sc] 29)
  have O1 := hO.below bT
  have B1 := hb1.trans (bT.mono hb1.size)
  have hz1' := hb1.size
  clear HN hO hb1 bT e1
  go_upto_region 2 with fail
  generalize w1.alloc (.cells #[.int .i64 1, .slice la ln lc, .slice fa fn fc, .slice sa sn sc] 29) = w2 at *
  generalize w1.heap.size = tb at *
  go_wp2_with (at_make; refine wpList_make_full _ rfl _ _ 40 rfl w2.heap.size 4 i0 (.bool false) 1 Tryz.underlying40 hi hz0 hz1 _ _ _ _ 1001 rfl rfl rfl rfl (by rw [hz2]; omega) (by unfold maxLen; omega) (Nat.le_refl _) ?_)
  intro w3 hown hgrow
  rw [toList_madeCells_one] at hown
  have b3 : Below w2.heap.size w2 w3 := (Below.refl _ _).grown hgrow (Nat.le_refl _) (fun k hk => by cases hk)
  have S0 := hide (show ReSt W w3 tb w2.heap.size ⟨la, ln, lc⟩ ⟨fa, fn, fc⟩ ⟨sa, sn, sc⟩ ss (reD []) [] from ⟨B1.trans (b3.mono B1.size), O1.below b3, (b3.block tb (blk_lt kT)).trans kT, gd_base (by rw [seenI_nil, List.map_replicate]; exact hown) B1.size, hz1'⟩)
  clear O1 B1 kT hown hgrow b3
  generalize w2.heap.size = mb at *
  go_wp2_with fail
  go_loopw [6] (fun iv wr => ∃ (k : Nat) (l : Sl), k ≤ n ∧ iv = .int .i64 k ∧ Hid (Made ((hs.map (·.X)).take k)) ∧ Hid (ReSt W wr tb mb l ⟨fa, fn, fc⟩ ⟨sa, sn, sc⟩ ss (reD ((hs.map (·.X)).take k)) ((hs.map (·.X)).take k))) (fun iv _ => n - (intOf iv).toNat)
  case atStart => exact ⟨0, _, Nat.zero_le _, rfl, hide Made.nil, S0⟩
  case round =>
    clear S0
    obtain ⟨k, ⟨l1, l2, l3⟩, hk, rfl, hM, hS⟩ := hrel
    have kv := (unhide hS).box
    unfold vzC reD at kv
    simp only at kv
    have hW0 : w.heap.size < W.heap.size := blk_lt (unhide K0)
    by_cases hlt : k < n
    · have hih : k < hs.length := by rw [unhide LN]; exact hlt
      have bZ := (unhide BZ).trans ((unhide hS).bel.mono (unhide BZ).size)
      have hkn : (k : Int) < (n : Int) := by omega
      obtain ⟨b, off, rfl, hbl, x0, x1, x2⟩ := unhide RW wr bZ k hih
      have EX := hide (show (hs.map (·.X)).take (k + 1) = (hs.map (·.X)).take k ++ [hs[k].X] by rw [take_snoc_im _ _ (by simpa using hih)]; simp)
      have SMk := unhide SM k hih
      have BA := hide ((Below.refl wr.heap.size wr).alloc (Nat.le_refl _) (.cells #[.int .i64 hs[k].X.id, .bool hs[k].X.gone, .slice (some ⟨hs[k].g, 0, none⟩) hs[k].X.xs.length hs[k].c] 72))
      have KA := hide (heap_alloc_new wr (.cells #[.int .i64 hs[k].X.id, .bool hs[k].X.gone, .slice (some ⟨hs[k].g, 0, none⟩) hs[k].X.xs.length hs[k].c] 72))
      have RDk := hide (fun (u : World) (hu : Below wr.heap.size wr u) => unhide RD k hih u (bZ.trans (hu.mono bZ.size)))
      have STOP := hide (fun (h : reOK ((hs.map (·.X)).take k) hs[k].X = false) => show reT [] (hs.map (·.X)) = (hs.map (·.X)).take k by
        have hl : k < (hs.map (·.X)).length := by simpa using hih
        refine re_stop hl (unhide hM) ?_
        rw [List.getElem_map]
        exact h)
      have SAME := hide (rc_same hs[k].X.id (unhide BY k hih))
      clear RW RD SM BY
      generalize hs[k].X = X at *
      generalize hs[k].g = xg at *
      generalize hs[k].c = xc at *
      go_upto_region 7 with fail
      clear x0 x1 x2
      generalize wr.alloc (.cells #[.int .i64 X.id, .bool X.gone, .slice (some ⟨xg, 0, none⟩) X.xs.length xc] 72) = u1 at *
      have i0' := (heap_at (unhide KA) 0).1
      have i2' := (heap_at (unhide KA) 2).1
      go_wp2_with fail
      refine (unhide RDk u1 (unhide BA)).mono ?_
      rintro e w4 ⟨vs, rfl, hvs, b4⟩
      rw [(unhide SAME).1] at hvs ⊢
      have VS := hide (fun h : rcOK X.id X.xs = true => show VOwns w4 u1.heap.size vs (rcL X.id X.xs) by rw [← (unhide SAME).2 h]; exact hvs h)
      have WI := (unhide KA)
      have k4 := (b4.block wr.heap.size (blk_lt WI)).trans WI
      have j0 := (heap_at k4 0).1
      have j1 := (heap_at k4 1).1
      have bT := (unhide BA).trans (b4.mono (unhide BA).size)
      have S4 := hide ((unhide hS).below bT)
      have ROK := hide (show reOK ((hs.map (·.X)).take k) X = (rcOK X.id X.xs && (!X.gone && (decide (1 ≤ X.id ∧ X.id < 1000) && !((hs.map (·.X)).take k).any fun y => decide (y.id = X.id)))) from rfl)
      have SEEN : w4.cell? ⟨mb, X.id.toNat, none⟩ = some (.bool (((hs.map (·.X)).take k).any fun y => decide (y.id = X.id))) := by
        have hx := SMk.2
        have h := World.ownsRow.cellAt (unhide S4).row X.id.toNat (by omega)
        have he : X.id = (X.id.toNat : Int) := by omega
        have hg := seenI_at ((hs.map (·.X)).take k) X.id.toNat (by omega)
        rw [← he] at hg
        rw [← hg]
        rw [List.getElem?_map, List.getElem?_eq_getElem (by rw [seenI_len]; omega)] at h
        exact h
      generalize rcOK X.id X.xs = okb at *
      generalize (((hs.map (·.X)).take k).any fun y => decide (y.id = X.id)) = sb at *
      have MK := hide (fun h : reOK ((hs.map (·.X)).take k) X = true => show Made ((hs.map (·.X)).take (k + 1)) by rw [unhide EX]; exact Made.snoc (unhide hM) h)
      have LN8 : (reV ((hs.map (·.X)).take k)).length ≤ 8000 := by
        have h1 := (unhide hM).len8
        have h2 : ((hs.map (·.X)).take k).length ≤ k := by rw [List.length_take]; omega
        omega
      have hmb := ((unhide hS).row.lt mb rfl).2
      have K4 := hide k4
      clear hvs WI hM hS kv i0' i2' k4 bT
      obtain ⟨xi, xo, xs⟩ := X
      simp only at *
      cases okb with
      | false =>
        have Z := hide (unhide STOP (by rw [unhide ROK]; rfl))
        have kv := (unhide S4).box
        unfold vzC reD at kv
        simp only at kv
        have hzW := (unhide BZ).size
        have kr := ((unhide S4).bel.block w.heap.size hW0).trans (unhide K0)
        have v0 := (heap_at kv 0).1
        have v1 := (heap_at kv 1).1
        have v2 := (heap_at kv 2).1
        have v3 := (heap_at kv 3).1
        have y0 := (heap_at kr 0).1
        have y1 := (heap_at kr 1).1
        have y2 := (heap_at kr 2).1
        have y3 := (heap_at kr 3).1
        have g0 := (heap_at kr 0).2
        have g1 := (heap_at kr 1).2
        have g2 := (heap_at kr 2).2
        have g3 := (heap_at kr 3).2
        have hS4 := set4_wr w4 w.heap.size (.int .i64 (reN ((hs.map (·.X)).take k))) (.slice l1 l2 l3) (.slice fa fn fc) (.slice sa sn sc)
        have bR := (unhide BZ).trans ((unhide S4).bel.mono hzW)
        have RES := hide (show ReRes (hs.map (·.X)) w (.returned (.tuple #[.agg #[.int .i64 (reN ((hs.map (·.X)).take k)), .slice l1 l2 l3, .slice fa fn fc, .slice sa sn sc], .int .i64 (k : Int)])) _ from ⟨⟨l1, l2, l3⟩, ⟨fa, fn, fc⟩, ⟨sa, sn, sc⟩, ss, by rw [unhide Z, List.length_take, List.length_map, Nat.min_eq_left (by omega)], by rw [unhide Z]; exact ((unhide S4).own.wr hS4 (fun i e => by rw [e]; exact hW0)).dn hzW, bR.trans (WrB.below hS4 (fun i e => by rw [e]; exact Nat.le_refl _) bR.size)⟩)
        clear hS4 bR kv kr S4 Z STOP ROK EX VS BA KA RDk SAME hzW
        go_wp2_with fail
        refine bodyPost_ret (v := .tuple #[.agg #[.int .i64 (reN ((hs.map (·.X)).take k)), .slice l1 l2 l3, .slice fa fn fc, .slice sa sn sc], .int .i64 (k : Int)]) (by simp [results, Tryz.results93, go_sem, *]) rfl ?_
        exact unhide RES
      | true =>
        cases xo with
        | true =>
          have Z := hide (unhide STOP (by rw [unhide ROK]; rfl))
          have kv := (unhide S4).box
          unfold vzC reD at kv
          simp only at kv
          have hzW := (unhide BZ).size
          have kr := ((unhide S4).bel.block w.heap.size hW0).trans (unhide K0)
          have v0 := (heap_at kv 0).1
          have v1 := (heap_at kv 1).1
          have v2 := (heap_at kv 2).1
          have v3 := (heap_at kv 3).1
          have y0 := (heap_at kr 0).1
          have y1 := (heap_at kr 1).1
          have y2 := (heap_at kr 2).1
          have y3 := (heap_at kr 3).1
          have g0 := (heap_at kr 0).2
          have g1 := (heap_at kr 1).2
          have g2 := (heap_at kr 2).2
          have g3 := (heap_at kr 3).2
          have hS4 := set4_wr w4 w.heap.size (.int .i64 (reN ((hs.map (·.X)).take k))) (.slice l1 l2 l3) (.slice fa fn fc) (.slice sa sn sc)
          have bR := (unhide BZ).trans ((unhide S4).bel.mono hzW)
          have RES := hide (show ReRes (hs.map (·.X)) w (.returned (.tuple #[.agg #[.int .i64 (reN ((hs.map (·.X)).take k)), .slice l1 l2 l3, .slice fa fn fc, .slice sa sn sc], .int .i64 (k : Int)])) _ from ⟨⟨l1, l2, l3⟩, ⟨fa, fn, fc⟩, ⟨sa, sn, sc⟩, ss, by rw [unhide Z, List.length_take, List.length_map, Nat.min_eq_left (by omega)], by rw [unhide Z]; exact ((unhide S4).own.wr hS4 (fun i e => by rw [e]; exact hW0)).dn hzW, bR.trans (WrB.below hS4 (fun i e => by rw [e]; exact Nat.le_refl _) bR.size)⟩)
          clear hS4 bR kv kr S4 Z STOP ROK EX VS BA KA RDk SAME hzW
          go_wp2_with fail
          refine bodyPost_ret (v := .tuple #[.agg #[.int .i64 (reN ((hs.map (·.X)).take k)), .slice l1 l2 l3, .slice fa fn fc, .slice sa sn sc], .int .i64 (k : Int)]) (by simp [results, Tryz.results93, go_sem, *]) rfl ?_
          exact unhide RES
        | false =>
          by_cases h1 : xi < 1
          · have Z := hide (unhide STOP (by rw [unhide ROK]; rw [decide_eq_false (by omega)]; rfl))
            have kv := (unhide S4).box
            unfold vzC reD at kv
            simp only at kv
            have hzW := (unhide BZ).size
            have kr := ((unhide S4).bel.block w.heap.size hW0).trans (unhide K0)
            have v0 := (heap_at kv 0).1
            have v1 := (heap_at kv 1).1
            have v2 := (heap_at kv 2).1
            have v3 := (heap_at kv 3).1
            have y0 := (heap_at kr 0).1
            have y1 := (heap_at kr 1).1
            have y2 := (heap_at kr 2).1
            have y3 := (heap_at kr 3).1
            have g0 := (heap_at kr 0).2
            have g1 := (heap_at kr 1).2
            have g2 := (heap_at kr 2).2
            have g3 := (heap_at kr 3).2
            have hS4 := set4_wr w4 w.heap.size (.int .i64 (reN ((hs.map (·.X)).take k))) (.slice l1 l2 l3) (.slice fa fn fc) (.slice sa sn sc)
            have bR := (unhide BZ).trans ((unhide S4).bel.mono hzW)
            have RES := hide (show ReRes (hs.map (·.X)) w (.returned (.tuple #[.agg #[.int .i64 (reN ((hs.map (·.X)).take k)), .slice l1 l2 l3, .slice fa fn fc, .slice sa sn sc], .int .i64 (k : Int)])) _ from ⟨⟨l1, l2, l3⟩, ⟨fa, fn, fc⟩, ⟨sa, sn, sc⟩, ss, by rw [unhide Z, List.length_take, List.length_map, Nat.min_eq_left (by omega)], by rw [unhide Z]; exact ((unhide S4).own.wr hS4 (fun i e => by rw [e]; exact hW0)).dn hzW, bR.trans (WrB.below hS4 (fun i e => by rw [e]; exact Nat.le_refl _) bR.size)⟩)
            clear hS4 bR kv kr S4 Z STOP ROK EX VS BA KA RDk SAME hzW
            go_wp2_with fail
            refine bodyPost_ret (v := .tuple #[.agg #[.int .i64 (reN ((hs.map (·.X)).take k)), .slice l1 l2 l3, .slice fa fn fc, .slice sa sn sc], .int .i64 (k : Int)]) (by simp [results, Tryz.results93, go_sem, *]) rfl ?_
            exact unhide RES
          by_cases h2 : 1000 ≤ xi
          · have Z := hide (unhide STOP (by rw [unhide ROK]; rw [decide_eq_false (by omega)]; rfl))
            have kv := (unhide S4).box
            unfold vzC reD at kv
            simp only at kv
            have hzW := (unhide BZ).size
            have kr := ((unhide S4).bel.block w.heap.size hW0).trans (unhide K0)
            have v0 := (heap_at kv 0).1
            have v1 := (heap_at kv 1).1
            have v2 := (heap_at kv 2).1
            have v3 := (heap_at kv 3).1
            have y0 := (heap_at kr 0).1
            have y1 := (heap_at kr 1).1
            have y2 := (heap_at kr 2).1
            have y3 := (heap_at kr 3).1
            have g0 := (heap_at kr 0).2
            have g1 := (heap_at kr 1).2
            have g2 := (heap_at kr 2).2
            have g3 := (heap_at kr 3).2
            have hS4 := set4_wr w4 w.heap.size (.int .i64 (reN ((hs.map (·.X)).take k))) (.slice l1 l2 l3) (.slice fa fn fc) (.slice sa sn sc)
            have bR := (unhide BZ).trans ((unhide S4).bel.mono hzW)
            have RES := hide (show ReRes (hs.map (·.X)) w (.returned (.tuple #[.agg #[.int .i64 (reN ((hs.map (·.X)).take k)), .slice l1 l2 l3, .slice fa fn fc, .slice sa sn sc], .int .i64 (k : Int)])) _ from ⟨⟨l1, l2, l3⟩, ⟨fa, fn, fc⟩, ⟨sa, sn, sc⟩, ss, by rw [unhide Z, List.length_take, List.length_map, Nat.min_eq_left (by omega)], by rw [unhide Z]; exact ((unhide S4).own.wr hS4 (fun i e => by rw [e]; exact hW0)).dn hzW, bR.trans (WrB.below hS4 (fun i e => by rw [e]; exact Nat.le_refl _) bR.size)⟩)
            clear hS4 bR kv kr S4 Z STOP ROK EX VS BA KA RDk SAME hzW
            go_wp2_with fail
            refine bodyPost_ret (v := .tuple #[.agg #[.int .i64 (reN ((hs.map (·.X)).take k)), .slice l1 l2 l3, .slice fa fn fc, .slice sa sn sc], .int .i64 (k : Int)]) (by simp [results, Tryz.results93, go_sem, *]) rfl ?_
            exact unhide RES
          obtain ⟨m, rfl⟩ : ∃ m : Nat, xi = (m : Int) := ⟨xi.toNat, by omega⟩
          have hm1 : m < 1001 := by omega
          rw [Int.toNat_natCast] at SEEN
          cases sb with
          | true =>
            have Z := hide (unhide STOP (by rw [unhide ROK]; rw [decide_eq_true (by omega)]; rfl))
            have kv := (unhide S4).box
            unfold vzC reD at kv
            simp only at kv
            have hzW := (unhide BZ).size
            have kr := ((unhide S4).bel.block w.heap.size hW0).trans (unhide K0)
            have v0 := (heap_at kv 0).1
            have v1 := (heap_at kv 1).1
            have v2 := (heap_at kv 2).1
            have v3 := (heap_at kv 3).1
            have y0 := (heap_at kr 0).1
            have y1 := (heap_at kr 1).1
            have y2 := (heap_at kr 2).1
            have y3 := (heap_at kr 3).1
            have g0 := (heap_at kr 0).2
            have g1 := (heap_at kr 1).2
            have g2 := (heap_at kr 2).2
            have g3 := (heap_at kr 3).2
            have hS4 := set4_wr w4 w.heap.size (.int .i64 (reN ((hs.map (·.X)).take k))) (.slice l1 l2 l3) (.slice fa fn fc) (.slice sa sn sc)
            have bR := (unhide BZ).trans ((unhide S4).bel.mono hzW)
            have RES := hide (show ReRes (hs.map (·.X)) w (.returned (.tuple #[.agg #[.int .i64 (reN ((hs.map (·.X)).take k)), .slice l1 l2 l3, .slice fa fn fc, .slice sa sn sc], .int .i64 (k : Int)])) _ from ⟨⟨l1, l2, l3⟩, ⟨fa, fn, fc⟩, ⟨sa, sn, sc⟩, ss, by rw [unhide Z, List.length_take, List.length_map, Nat.min_eq_left (by omega)], by rw [unhide Z]; exact ((unhide S4).own.wr hS4 (fun i e => by rw [e]; exact hW0)).dn hzW, bR.trans (WrB.below hS4 (fun i e => by rw [e]; exact Nat.le_refl _) bR.size)⟩)
            clear hS4 bR kv kr S4 Z STOP ROK EX VS BA KA RDk SAME hzW
            go_wp2_with fail
            refine bodyPost_ret (v := .tuple #[.agg #[.int .i64 (reN ((hs.map (·.X)).take k)), .slice l1 l2 l3, .slice fa fn fc, .slice sa sn sc], .int .i64 (k : Int)]) (by simp [results, Tryz.results93, go_sem, *]) rfl ?_
            exact unhide RES
          | false =>
            have OKX : reOK ((hs.map (·.X)).take k) ⟨(m : Int), false, xs⟩ = true := by rw [unhide ROK, decide_eq_true (by omega)]; rfl
            have MK1 := hide (unhide MK OKX)
            have HV := unhide VS rfl
            have WF := (rcOK_facts (reOK_facts OKX).1).1
            have hN8 := (wrV_ok WF).1
            simp only at HV hN8
            obtain ⟨va, vc, rfl⟩ := vowns_slice HV
            obtain ⟨cur, kb⟩ := own_kind (unhide S4).row (i := mb) rfl
            have hw := set1_wr w4 mb m (.bool true)
            have S5 := hide (show ReSt W (w4.setCell ⟨mb, m, none⟩ (.bool true)) tb mb ⟨l1, l2, l3⟩ ⟨fa, fn, fc⟩ ⟨sa, sn, sc⟩ ss (reD ((hs.map (·.X)).take k)) ((hs.map (·.X)).take k ++ [⟨(m : Int), false, xs⟩]) from (unhide S4).mark ⟨(m : Int), false, xs⟩ ⟨by simp only; omega, by simp only; omega⟩)
            have V5 := hide (own_keep HV kb (by decide) hw)
            have K5 := hide ((hw.block wr.heap.size (blk_lt (unhide K4)) (fun e => by omega)).trans (unhide K4))
            have fz := (unhide S4).row.frozenAt m
            clear HV hw kb S4 STOP ROK VS BA KA RDk SAME MK
            generalize hLW : rcL (m : Int) xs = LW at *
            go_upto_region 12 with fail
            clear SEEN fz
            generalize w4.setCell ⟨mb, m, none⟩ (.bool true) = w5 at *
            generalize wr.heap.size = ib at *
            go_loopw [10] (fun jv wq => ∃ (j : Nat) (l' : Sl), j ≤ LW.length ∧ jv = .int .i64 j ∧ Hid (ReSt W wq tb mb l' ⟨fa, fn, fc⟩ ⟨sa, sn, sc⟩ ss ⟨reN ((hs.map (·.X)).take k), (LW.take j).foldl insV (reV ((hs.map (·.X)).take k)), [], List.replicate 4 clS⟩ ((hs.map (·.X)).take k ++ [⟨(m : Int), false, xs⟩])) ∧ Hid (VOwns wq u1.heap.size (.slice va LW.length vc) LW) ∧ Hid (wq.heap[ib]? = some (.cells #[.int .i64 (m : Int), .bool false, .slice (some ⟨xg, 0, none⟩) xs.length xc] 72 (0, 0)))) (fun jv _ => LW.length - (intOf jv).toNat)
            case atStart => exact ⟨0, ⟨l1, l2, l3⟩, Nat.zero_le _, rfl, S5, V5, K5⟩
            case round =>
              clear S5 V5 K5
              obtain ⟨j, ⟨q1, q2, q3⟩, hj, rfl, hQ, hV, hK5⟩ := hrel
              by_cases hjl : j < LW.length
              · have hkn2 : (j : Int) < (LW.length : Int) := by omega
                have hbt : va.map (·.block) ≠ some tb := fun e => by
                  cases va with
                  | none => cases e
                  | some x => injection e with e; exact own_box (unhide hV) (unhide hQ).box (by decide) (by rw [← e]; rfl)
                have hib : ib ≠ tb := fun e => by
                  have h1 := unhide hK5
                  rw [e, (unhide hQ).box] at h1
                  injection h1 with h1
                  injection h1 with _ h1
                  exact absurd h1 (by decide)
                obtain ⟨b', off', rfl, d0, d1, d2, d3⟩ := (vrow_of_owns (unhide hV)).2 j hjl
                have hb't : b' ≠ tb := fun e => hbt (by rw [e]; rfl)
                have hb'l : b' < wr.heap.size := cell_lt d0
                have FS := hide (show (LW.take (j + 1)).foldl insV (reV ((hs.map (·.X)).take k)) = insV ((LW.take j).foldl insV (reV ((hs.map (·.X)).take k))) LW[j] by rw [takeG_snoc LW j hjl, List.foldl_append]; rfl)
                have LL : ((LW.take j).foldl insV (reV ((hs.map (·.X)).take k))).length ≤ 9000 := by
                  have h1 := fold_len (LW.take j) (reV ((hs.map (·.X)).take k))
                  rw [List.length_take] at h1
                  omega
                have CQ := cap_of_owns (s := ⟨q1, q2, q3⟩) (unhide hQ).own.vo
                have SI := hide (fun (u : World) (hb : Below wr.heap.size wr u) => (l06Insert_any q1 q2 q3 ((LW.take j).foldl insV (reV ((hs.map (·.X)).take k))) LW[j] u ((vrow_of_owns (unhide hQ).own.vo).below hb) (by have := (vrow_of_owns (unhide hQ).own.vo).1; simp only at this; omega) CQ.1 CQ.2).mono fun e u' h => show ∃ g q, e = .returned (.slice (some ⟨g, 0, none⟩) ((LW.take (j + 1)).foldl insV (reV ((hs.map (·.X)).take k))).length q) ∧ VOwns u' wr.heap.size (.slice (some ⟨g, 0, none⟩) ((LW.take (j + 1)).foldl insV (reV ((hs.map (·.X)).take k))).length q) ((LW.take (j + 1)).foldl insV (reV ((hs.map (·.X)).take k))) ∧ Below wr.heap.size wr u' by
                  obtain ⟨g, q, h1, h2, h3⟩ := h
                  rw [unhide FS]
                  exact ⟨g, q, h1, gd_base h2 hb.size, hb.trans (h3.mono hb.size)⟩)
                clear FS CQ
                generalize LW[j] = pd at *
                obtain ⟨pk, pt, pv, pg⟩ := pd
                unfold vv at SI
                simp only at SI d0 d1 d2 d3
                have SK := hide (show ∀ u : World, (∀ i, i ≠ tb → i < wr.heap.size → u.heap[i]? = wr.heap[i]?) → (u.cell? ⟨b', off' + j * 4, none⟩ = some (.string pk) ∧ u.cell? ⟨b', off' + j * 4 + 1, none⟩ = some (.int .i64 pt) ∧ u.cell? ⟨b', off' + j * 4 + 2, none⟩ = some (.string pv) ∧ u.cell? ⟨b', off' + j * 4 + 3, none⟩ = some (.bool pg)) from fun u hb =>
                  ⟨(World.cell?_of_block (a := ⟨b', off' + j * 4, none⟩) (hb _ hb't hb'l)).trans d0, (World.cell?_of_block (a := ⟨b', off' + j * 4 + 1, none⟩) (hb _ hb't hb'l)).trans d1, (World.cell?_of_block (a := ⟨b', off' + j * 4 + 2, none⟩) (hb _ hb't hb'l)).trans d2, (World.cell?_of_block (a := ⟨b', off' + j * 4 + 3, none⟩) (hb _ hb't hb'l)).trans d3⟩)
                have SB := hide (show ∀ u : World, Below wr.heap.size wr u → ∀ i, i ≠ tb → i < wr.heap.size → u.heap[i]? = wr.heap[i]? from fun u hu i _ hi => hu.block i hi)
                have G0 : Below wr.heap.size wr wr.drew := (Below.refl _ _).drew
                have htb : tb < wr.heap.size := blk_lt (unhide hQ).box
                have Y1 := hide (show wr.drew.cell? ⟨tb, 1, none⟩ = some (.slice q1 q2 q3) from (G0.cell (p := ⟨tb, 1, none⟩) htb).trans (heap_at (unhide hQ).box 1).1)
                clear d0 d1 d2 d3
                go_upto_region 14 with fail
                refine wp_region_held_drew (S := (fun u => (u.cell? ⟨b', off' + j * 4, none⟩ = some (.string pk) ∧ u.cell? ⟨b', off' + j * 4 + 1, none⟩ = some (.int .i64 pt) ∧ u.cell? ⟨b', off' + j * 4 + 2, none⟩ = some (.string pv) ∧ u.cell? ⟨b', off' + j * 4 + 3, none⟩ = some (.bool pg)))) (by kernel_rfl) (unhide SK _ (unhide SB _ G0)) (fun hHeld => ?_)
                refine anyH_take 0 66 (v := ?v1) rfl rfl (by kernel_rfl) (by kernel_rfl) (by kernel_rfl) (fun _ _ _ h => h) (by rfl) ?h1 hHeld ?r1
                case h1 => (intro w hSw; (try dsimp only at hSw); go_simp; try (with_reducible rfl))
                simp only [Act.put, List.setIfInBounds_toArray, List.set_cons_zero, List.set_cons_succ]
                refine anyH_take 2 68 (v := ?v2) rfl rfl (by kernel_rfl) (by kernel_rfl) (by kernel_rfl) (fun _ _ _ h => h) (by rfl) ?h2 hHeld ?r2
                case h2 => (intro w hSw; (try dsimp only at hSw); go_simp; try (with_reducible rfl))
                simp only [Act.put, List.setIfInBounds_toArray, List.set_cons_zero, List.set_cons_succ]
                refine anyH_take 3 69 (v := ?v3) rfl rfl (by kernel_rfl) (by kernel_rfl) (by kernel_rfl) (fun _ _ _ h => h) (by rfl) ?h3 hHeld ?r3
                case h3 => (intro w hSw; (try dsimp only at hSw); go_simp; try (with_reducible rfl))
                simp only [Act.put, List.setIfInBounds_toArray, List.set_cons_zero, List.set_cons_succ]
                refine anyH_take 4 70 (v := ?v4) rfl rfl (by kernel_rfl) (by kernel_rfl) (by kernel_rfl) (fun _ _ _ h => h) (by rfl) ?h4 hHeld ?r4
                case h4 => (intro w hSw; (try dsimp only at hSw); go_simp; try (with_reducible rfl))
                simp only [Act.put, List.setIfInBounds_toArray, List.set_cons_zero, List.set_cons_succ]
                refine anyH_take 5 71 (v := ?v5) rfl rfl (by kernel_rfl) (by kernel_rfl) (by kernel_rfl) (fun _ _ _ h => h) (by rfl) ?h5 hHeld ?r5
                case h5 => (intro w hSw; (try dsimp only at hSw); go_simp; try (with_reducible rfl))
                simp only [Act.put, List.setIfInBounds_toArray, List.set_cons_zero, List.set_cons_succ]
                refine wpAnyH_ready (rs := [1]) (by kernel_rfl) (by simp) ?_
                refine AllReadyH.cons rfl (fun K hK => ?_) AllReadyH.nil
                have y := unhide Y1
                go_simp
                clear y
                refine hK.out _ _ (hHeld) (fun hHeld => ?_)
                clear hK K
                refine wpAnyH_ready (rs := [6]) (by kernel_rfl) (by simp) ?_
                refine AllReadyH.cons rfl (fun K hK => ?_) AllReadyH.nil
                go_simp
                refine (unhide SI _ G0).mono ?_
                rintro e w6 ⟨g, q, rfl, o2, b2⟩
                have k2 := ((unhide hQ).below b2).box
                have x1 := (heap_at k2 1).1
                have f1 := (heap_at k2 1).2
                have Z6 := hide ((unhide hQ).ins b2 o2)
                have hS9 := set1_wr w6 tb 1 (.slice (some ⟨g, 0, none⟩) ((LW.take (j + 1)).foldl insV (reV ((hs.map (·.X)).take k))).length q)
                have V6 := hide (own_keep (rb_ownsRow_below (unhide hV) b2) k2 (by decide) hS9)
                have K6 := hide ((hS9.block ib (Nat.lt_of_lt_of_le (blk_lt (unhide hK5)) b2.size) hib).trans ((b2.block ib (blk_lt (unhide hK5))).trans (unhide hK5)))
                have E3 := hide (show ∀ i, i ≠ tb → i < wr.heap.size → (w6.setCell ⟨tb, 1, none⟩ (.slice (some ⟨g, 0, none⟩) ((LW.take (j + 1)).foldl insV (reV ((hs.map (·.X)).take k))).length q)).heap[i]? = wr.heap[i]? from fun i h1 h2 => (hS9.block i (Nat.lt_of_lt_of_le h2 b2.size) h1).trans (b2.block i h2))
                have BB := hide b2
                clear o2 hS9 b2 k2
                refine hK.out _ _ (unhide SK _ (unhide SB _ (unhide BB))) (fun hHeld => ?_)
                clear hK K
                refine anyH_take 7 73 (v := ?v6) rfl rfl (by kernel_rfl) (by kernel_rfl) (by kernel_rfl) (fun _ _ _ h => h) (by rfl) ?h6 hHeld ?r6
                case h6 => (intro w hSw; (try dsimp only at hSw); go_simp; try (with_reducible rfl))
                simp only [Act.put, List.setIfInBounds_toArray, List.set_cons_zero, List.set_cons_succ]
                refine wpAnyH_ready (rs := [8]) (by kernel_rfl) (by simp) ?_
                refine AllReadyH.cons rfl (fun K hK => ?_) AllReadyH.nil
                go_simp
                refine hK.out _ _ (unhide SK _ (unhide E3)) (fun hHeld => ?_)
                clear hK K
                refine wpAnyH_done (by kernel_rfl) ?_ _
                clear hHeld SK SB SI G0 Y1 x1 f1
                go_wp2_with fail
                go_roundw
                case rel => exact ⟨j + 1, _, by omega, by go_num, unhide Z6, unhide V6, unhide K6⟩
                case measure => simp [intOf]; omega
              · obtain rfl : j = LW.length := by omega
                have kv := (unhide hQ).box
                unfold vzC at kv
                simp only at kv
                have v0 := (heap_at kv 0).1
                have g0 := (heap_at kv 0).2
                have j0 := (heap_at (unhide hK5) 0).1
                have Z := hide (show ReSt W (wr.setCell ⟨tb, 0, none⟩ (.int .i64 (max (reN ((hs.map (·.X)).take k)) ((m : Int) + 1)))) tb mb ⟨q1, q2, q3⟩ ⟨fa, fn, fc⟩ ⟨sa, sn, sc⟩ ss (reD ((hs.map (·.X)).take (k + 1))) ((hs.map (·.X)).take (k + 1)) by
                  have h := (unhide hQ).nextS (max (reN ((hs.map (·.X)).take k)) ((m : Int) + 1))
                  simp only [List.take_length] at h
                  rw [unhide EX]
                  unfold reD
                  rw [reN_snoc, reV_snoc]
                  simp only
                  rw [hLW]
                  exact h)
                have hmx : (m : Int) + 1 ≤ 1000 := by omega
                clear hQ hV hK5 kv
                go_wp2_with fail
                go_roundw
                case rel => exact ⟨k + 1, ⟨q1, q2, q3⟩, by omega, by go_num, unhide MK1, unhide Z⟩
                case measure => simp [intOf]; omega
    · obtain rfl : k = n := by omega
      have hTK : (hs.map (·.X)).take k = hs.map (·.X) := List.take_of_length_le (by rw [List.length_map, unhide LN]; exact Nat.le_refl _)
      rw [hTK] at hM hS kv
      have RT := hide ((unhide hM).all)
      have hzW := (unhide BZ).size
      have kr := ((unhide hS).bel.block w.heap.size hW0).trans (unhide K0)
      have v0 := (heap_at kv 0).1
      have v1 := (heap_at kv 1).1
      have v2 := (heap_at kv 2).1
      have v3 := (heap_at kv 3).1
      have y0 := (heap_at kr 0).1
      have y1 := (heap_at kr 1).1
      have y2 := (heap_at kr 2).1
      have y3 := (heap_at kr 3).1
      have g0 := (heap_at kr 0).2
      have g1 := (heap_at kr 1).2
      have g2 := (heap_at kr 2).2
      have g3 := (heap_at kr 3).2
      have hS4 := set4_wr wr w.heap.size (.int .i64 (reN (hs.map (·.X)))) (.slice l1 l2 l3) (.slice fa fn fc) (.slice sa sn sc)
      have bR := (unhide BZ).trans ((unhide hS).bel.mono hzW)
      have RES := hide (show ReRes (hs.map (·.X)) w (.returned (.tuple #[.agg #[.int .i64 (reN (hs.map (·.X))), .slice l1 l2 l3, .slice fa fn fc, .slice sa sn sc], .int .i64 (k : Int)])) _ from ⟨⟨l1, l2, l3⟩, ⟨fa, fn, fc⟩, ⟨sa, sn, sc⟩, ss, by rw [unhide RT, List.length_map, unhide LN], by rw [unhide RT]; exact ((unhide hS).own.wr hS4 (fun i e => by rw [e]; exact hW0)).dn hzW, bR.trans (WrB.below hS4 (fun i e => by rw [e]; exact Nat.le_refl _) bR.size)⟩)
      clear hS4 bR kv kr hM hS RT RW RD SM BY
      go_wp2_with fail
      refine bodyPost_ret (v := .tuple #[.agg #[.int .i64 (reN (hs.map (·.X))), .slice l1 l2 l3, .slice fa fn fc, .slice sa sn sc], .int .i64 (k : Int)]) (by simp [results, Tryz.results93, go_sem, *]) rfl ?_
      exact unhide RES
end Go.Proofs.YtcflepnckjappaaGreat

namespace Go.Proofs.YtcflepnckjappaaGreat
open Go.RowKit

theorem crc_and {c : Nat} (hc : c < 4294967296) : bits .and .u32 (c : Int) 1 = ((c % 2 : Nat) : Int) := by
  have := u32_and_nat c 1 hc (by omega)
  rw [← nat_mask1, ← this]; rfl
theorem crcBit_odd_u32 {c : Nat} (hc : c < 4294967296) (h : c % 2 = 1) : bits .xor .u32 ((c : Int) / 2) 3988292384 = ((crcBit c : Nat) : Int) := by
  unfold crcBit
  rw [if_pos h]
  have := u32_xor_nat (c / 2) 3988292384 (by omega) (by omega)
  rw [← this]
  rfl
theorem crcBit_even_i {c : Nat} (h : ¬ c % 2 = 1) : ((c / 2 : Nat) : Int) = ((crcBit c : Nat) : Int) := by unfold crcBit; rw [if_neg h]
set_option maxHeartbeats 1000000 in
theorem crcOf_any (a : Option Addr) (n c : Nat) (xs : List Int) (w : World) (hn : n ≤ 1048576) (h1 : Row w a n xs) (h8 : Bytes8 xs) :
    Calls Tryz.prog 167 #[.slice a n c] w fun e w' => e = .returned (.int .u32 ((crcV xs : Nat) : Int)) ∧ w' = w := by
  have L1 := hide h1.1
  have H1 := hide h1.2
  have H8 := hide h8
  clear h1 h8
  go_enter Tryz.func167, Tryz.ntmps167
  go_wp2_with fail
  go_loop [3, 9] (fun s i => ∃ k : Nat, k ≤ n ∧ i = .int .i64 k ∧ s = .int .u32 ((crcSum (xs.take k) : Nat) : Int)) (fun _ i => n - (intOf i).toNat)
  case atStart => exact ⟨0, Nat.zero_le _, rfl, rfl⟩
  case round =>
    obtain ⟨k, hk, rfl, rfl⟩ := hrel
    by_cases hlt : k < n
    · obtain ⟨b, off, rfl, e1⟩ := unhide H1 k hlt
      have hx := unhide H8 k (by rw [unhide L1]; exact hlt)
      have hs := crcSum_take_lt (unhide H8) k (by rw [unhide L1]; omega)
      have SN := hide (crcSum_snoc xs k (by rw [unhide L1]; exact hlt))
      generalize xs.getD k 0 = x at *
      generalize crcSum (xs.take k) = s at *
      have hxx : bits .xor .u32 (s : Int) x = ((s ^^^ x.toNat : Nat) : Int) := by
        have := u32_xor_nat s x.toNat hs (by omega)
        rwa [Int.toNat_of_nonneg hx.1] at this
      have hS := hide (xor32 hs (show x.toNat < 4294967296 by omega))
      have SN2 := hide (show crcSum (xs.take (k + 1)) = crcBits (s ^^^ x.toNat) 8 from unhide SN)
      clear SN
      generalize s ^^^ x.toNat = t at *
      go_wp2_with fail
      go_loop [3, 17] (fun s i => ∃ j : Nat, j ≤ 8 ∧ i = .int .i64 j ∧ s = .int .u32 ((crcBits t j : Nat) : Int)) (fun _ i => 8 - (intOf i).toNat)
      case atStart => exact ⟨0, Nat.zero_le _, rfl, rfl⟩
      case round =>
        obtain ⟨j, hj, rfl, rfl⟩ := hrel
        by_cases hlt8 : j < 8
        · have hb := crcBits_lt (unhide hS) j
          have HE := hide (show crcBits t (j + 1) = crcBit (crcBits t j) from rfl)
          generalize crcBits t j = u at *
          have ha := crc_and hb
          by_cases ho : u % 2 = 1
          · have hr := crcBit_odd_u32 hb ho
            rw [ho] at ha
            clear ho
            go_wp2_with fail
            go_round
            case rel => exact ⟨j + 1, by omega, by go_num, by rw [unhide HE]⟩
            case measure => simp [intOf]; omega
          · have hr := hide (crcBit_even_i ho)
            rw [show u % 2 = 0 by omega] at ha
            clear ho
            go_wp2_with fail
            go_round
            case rel => exact ⟨j + 1, by omega, by go_num, by rw [unhide HE, ← unhide hr]; rfl⟩
            case measure => simp [intOf]; omega
        · obtain rfl : j = 8 := by omega
          go_wp2_with fail
          go_round
          case rel => exact ⟨k + 1, by omega, by go_num, by rw [unhide SN2]⟩
          case measure => simp [intOf]; omega
    · obtain rfl : k = n := by omega
      rw [List.take_of_length_le (by rw [unhide L1]; exact Nat.le_refl _)]
      have HV := hide (show bits .xor .u32 4294967295 ((crcSum xs : Nat) : Int) = ((crcV xs : Nat) : Int) from (u32_xor_nat 4294967295 _ (by omega) (crcSum_lt (unhide H8))).trans (by rw [Nat.xor_comm]; rfl))
      generalize crcSum xs = s at *
      go_wp2_with fail
      go_ret
      exact ⟨ret_int (unhide HV), rfl⟩
end Go.Proofs.YtcflepnckjappaaGreat

namespace Go.Proofs.YtcflepnckjappaaGreat
open Go.RowKit

theorem cell_new1 {w : World} {cs : Array Value} {t : TypeId} {g j : Nat} (hg : g = w.heap.size) : (w.alloc (.cells cs t)).cell? ⟨g, j, none⟩ = cs[j]? := by subst hg; simp
/-- The bounds of an image's number. -/
def idI (n : Int) : Bool := decide (0 ≤ n ∧ n ≤ 1000)
theorem idOK_img (n : Int) (w : World) : Calls Tryz.prog 165 #[.int .i64 n] w fun e w' => e = .returned (.bool (idI n)) ∧ w' = w := by
  by_cases h : 0 ≤ n
  · have E := hide (show decide (n ≤ 1000) = idI n by unfold idI; rw [decide_eq_decide]; omega)
    go_enter Tryz.func165, Tryz.ntmps165
    go_wp2_with fail
    go_ret
    exact ⟨ret_bool (unhide E), rfl⟩
  · have E := hide (show false = idI n by unfold idI; rw [decide_eq_false]; omega)
    go_enter Tryz.func165, Tryz.ntmps165
    go_wp2_with fail
    go_ret
    exact ⟨ret_bool (unhide E), rfl⟩
set_option maxHeartbeats 1000000 in
theorem imageOK_any (id : Int) (gone : Bool) (a : Option Addr) (n c : Nat) (w : World) (hn : n ≤ maxLen) :
    Calls Tryz.prog 77 #[iv id gone a n c] w fun e w' => e = .returned (.bool (imOK id gone n)) ∧ Below w.heap.size w w' := by
  unfold maxLen at hn
  have B0 : ∀ o, Below w.heap.size w (w.alloc o) := fun o => (Below.refl _ _).alloc (Nat.le_refl _) _
  cases gone
  all_goals
    go_enter Tryz.func77, Tryz.ntmps77
    go_wp2_with (go_at_call 165; refine (idOK_img id _).mono ?_; rintro e w1 ⟨rfl, rfl⟩)
    all_goals go_ret
    all_goals exact ⟨ret_bool (by simp_all [imOK, idI]; try omega), B0 _⟩
set_option maxHeartbeats 1000000 in
theorem appendTwo_any (B : Nat) (v0 : Value) (zs : List Int) (n : Int) (w : World) (hB : B ≤ w.heap.size) (hz : zs.length ≤ 10000000) (h0 : 0 ≤ n) (h1 : n ≤ 65535) (ho : Owns w B v0 zs) :
    Calls Tryz.prog 76 #[v0, .int .i64 n] w fun e w' => ∃ v, e = .returned v ∧ Owns w' B v (zs ++ [n / 256, n % 256]) ∧ Below B w w' := by
  obtain ⟨i0, hi, hz0, hz1, hz2⟩ := info_parts Tryz.infoU8
  have hq : n / 256 % 256 = n / 256 := by omega
  go_enter Tryz.func76, Tryz.ntmps76
  go_wp2_with (at_builtin; refine wpList_append_own _ rfl _ _ 22 rfl B 5 i0 (.int .u8 0) 1 1 Tryz.underlying22 hi hz0 hz1 hz2 rfl (by decide) _ _ _ rfl (ho.alloc _) ⟨w.heap.size, 0, none⟩ 2 2 [.int .u8 (n / 256), .int .u8 (n % 256)] rfl rfl cell_two (two_u8 _ _) (by unfold maxLen; omega) (by omega) (by simp; omega) ?_)
  intro v1 w1 hown1 hgrow1 _
  have R1 := hide (owns_app2 hown1)
  have R2 := hide (below_app (Below.refl _ _) hB ho hgrow1)
  clear ho hown1 hgrow1
  go_wp2_with fail
  go_ret
  exact ⟨_, rfl, unhide R1, unhide R2⟩
theorem owns_one {w : World} {B : Nat} (x : Int) (h : B ≤ w.heap.size) : Owns (w.alloc (.cells #[.int .u8 x] 5)) B (.slice (some ⟨w.heap.size, 0, none⟩) 1 1) [x] :=
  World.ownsRow_lit _ _ _ h (by unfold maxLen; simp) rfl
theorem owns_down {w : World} {B C : Nat} {v : Value} {xs : List Int} (h : Owns w B v xs) (hc : C ≤ B) : Owns w C v xs := by
  obtain ⟨h1, h2⟩ := h
  refine ⟨h1, ?_⟩
  rcases h2 with h2 | ⟨g, cap, cur, e, hb, r⟩
  · exact .inl h2
  · exact .inr ⟨g, cap, cur, e, Nat.le_trans hc hb, r⟩
/-- The cells of a row of bytes, as a law of the library asks them. -/
theorem row_cells' {w : World} {b off : Nat} {xs : List Int} (h : Row w (some ⟨b, off, none⟩) xs.length xs) : ∀ j u, (xs.map (Value.int .u8))[j]? = some u → w.cell? ((⟨b, off, none⟩ : Addr).add j) = some u := by
  intro j u hu
  have hj : j < xs.length := by simpa using (List.getElem?_eq_some_iff.1 hu).1
  obtain ⟨b', off', e, hc⟩ := h.2 j hj
  injection e with e
  injection e with e1 e2
  subst e1 e2
  rw [Addr.add_mid, hc, ← hu]
  simp [List.getD, hj]
theorem row_grow' {w w' : World} {a : Option Addr} {n : Nat} {xs : List Int} (h : Row w a n xs) (hb : Below w.heap.size w w') : Row w' a n xs := by
  refine ⟨h.1, fun i hi => ?_⟩
  obtain ⟨b, off, e, hc⟩ := h.2 i hi
  exact ⟨b, off, e, (hb.cell (p := ⟨b, off + i, none⟩) (cell_lt hc)).trans hc⟩
theorem owns_row {w : World} {B : Nat} {v : Value} {xs : List Int} (h : Owns w B v xs) (hv : v ≠ .slice none 0 0) : ∃ g cap, v = .slice (some ⟨g, 0, none⟩) xs.length cap ∧ Row w (some ⟨g, 0, none⟩) xs.length xs := by
  rcases h.2 with ⟨e, _⟩ | ⟨g, cap, cur, rfl, _⟩
  · exact absurd e hv
  · refine ⟨g, cap, rfl, rfl, fun i hi => ⟨g, 0, rfl, ?_⟩⟩
    have := World.ownsRow.cellAt h i (by omega)
    rw [Nat.zero_add, this]
    simp [List.getD, hi]
theorem owns_app4 {w : World} {B : Nat} {v : Value} {xs : List Int} {x y z u : Int} (h : w.ownsRow B 5 1 v (xs.length + 4) (xs.map (Value.int .u8) ++ [.int .u8 x, .int .u8 y, .int .u8 z, .int .u8 u])) : Owns w B v (xs ++ [x, y, z, u]) := by
  unfold Owns
  rw [List.length_append, List.map_append]; exact h
theorem four_u8 (x y z u : Int) : ∀ t ∈ [Value.int .u8 x, Value.int .u8 y, Value.int .u8 z, Value.int .u8 u], t.oneCell' = true := by
  intro t ht
  simp at ht
  rcases ht with rfl | rfl | rfl | rfl <;> rfl
theorem owns_nonnil {w : World} {B : Nat} {xs : List Int} (h : Owns w B (.slice none 0 0) xs) : xs = [] := by
  rcases h.2 with ⟨_, e⟩ | ⟨g, cap, cur, e, _⟩
  · exact List.eq_nil_of_length_eq_zero e
  · cases e
end Go.Proofs.YtcflepnckjappaaGreat

namespace Go.Proofs.YtcflepnckjappaaGreat
open Go.RowKit

set_option maxRecDepth 100000 in
set_option maxHeartbeats 40000000 in
theorem imageBytes_false (id : Int) (b off c : Nat) (xs : List Int) (w : World) (h : imOK id false xs.length = true) (h1 : Row w (some ⟨b, off, none⟩) xs.length xs) (h8 : Bytes8 xs) :
    Calls Tryz.prog 81 #[iv id false (some ⟨b, off, none⟩) xs.length c] w fun e w' => ∃ v, e = .returned v ∧ Owns w' w.heap.size v (imgL id false xs) ∧ v ≠ .slice none 0 0 ∧ Below w.heap.size w w' := by
  obtain ⟨i0, hi, hz0, hz1, hz2⟩ := info_parts Tryz.infoU8
  obtain ⟨g0, g1, g2, g3⟩ := of_decide_eq_true h
  clear g3
  have H8 := hide h8
  have R := hide h1
  clear h h1 h8
  have hb0 : Below w.heap.size w (w.alloc (.cells #[.int .i64 id, .bool false, .slice (some ⟨b, off, none⟩) xs.length c] 72)) := (Below.refl _ _).alloc (Nat.le_refl _) _
  have x0 : (w.alloc (.cells #[.int .i64 id, .bool false, .slice (some ⟨b, off, none⟩) xs.length c] 72)).cell? ⟨w.heap.size, 0, none⟩ = some (.int .i64 id) := (cell_new1 rfl).trans rfl
  have x2 : (w.alloc (.cells #[.int .i64 id, .bool false, .slice (some ⟨b, off, none⟩) xs.length c] 72)).cell? ⟨w.heap.size, 2, none⟩ = some (.slice (some ⟨b, off, none⟩) xs.length c) := (cell_new1 rfl).trans rfl
  have hsz : (w.alloc (.cells #[.int .i64 id, .bool false, .slice (some ⟨b, off, none⟩) xs.length c] 72)).heap.size = w.heap.size + 1 := by simp
  go_enter Tryz.func81, Tryz.ntmps81
  go_wp2_with fail
  generalize w.alloc (.cells #[.int .i64 id, .bool false, .slice (some ⟨b, off, none⟩) xs.length c] 72) = w0 at *
  have O0 := hide (owns_one (w := w0) (B := w0.heap.size) 1 (Nat.le_refl _))
  have B1 := hide ((Below.refl w0.heap.size w0).alloc (Nat.le_refl _) (.cells #[.int .u8 1] 5))
  have HS := hide hsz
  have hlt : w.heap.size < w0.heap.size := by omega
  have gid : id ≤ 65535 := by omega
  have gl1 : [(1 : Int)].length ≤ 10000000 := by simp
  have gl2 : ([(1 : Int)] ++ [id / 256, id % 256]).length ≤ 10000000 := by simp
  have gl3 : (xs.length : Int) ≤ 65535 := by omega
  have gl0 : (0 : Int) ≤ (xs.length : Int) := by omega
  have hle : ∀ o, w0.heap.size ≤ (w0.alloc o).heap.size := fun o => by simp
  have HA := hide (appendTwo_any w0.heap.size (.slice (some ⟨w0.heap.size, 0, none⟩) 1 1) [1] id (w0.alloc (.cells #[.int .u8 1] 5)).drew (hle _) gl1 g0 gid (unhide O0))
  clear hsz O0
  go_region_with (first
    | (revert hb1; intro hb1; go_at_call 76; refine (appendTwo_any w0.heap.size v1 ([1] ++ [id / 256, id % 256]) (xs.length : Int) w1 hb1.size gl2 gl0 gl3 ho1).mono ?_; rintro e w2 ⟨v2, rfl, ho2, hb2⟩)
    | (go_at_call 76; refine (unhide HA).mono ?_; rintro e w1 ⟨v1, rfl, ho1, hb1⟩; replace hb1 : Below w0.heap.size w0 w1 := (unhide B1).trans ⟨hb1.os, hb1.tape, hb1.output, hb1.size, hb1.block⟩; have y2 := (hb1.cell (p := ⟨w.heap.size, 2, none⟩) hlt).trans x2))
  all_goals
    have hb3 : Below w0.heap.size w0 w2 := hb1.trans hb2
    have HB := hide (hb0.trans (hb3.mono (by omega)))
    have z2 := (hb3.cell (p := ⟨w.heap.size, 2, none⟩) hlt).trans x2
    have RC := hide (row_cells' (row_grow' (unhide R) (unhide HB)))
    have hs2 := hb3.size
    clear hb3 hb2 hb1 ho1 y2 x0 x2 HA B1 hle gl1 gl2 gl3 gl0 hb0
    have e4 : [(1 : Int)] ++ [id / 256, id % 256] ++ [(xs.length : Int) / 256, (xs.length : Int) % 256] = [1, id / 256, id % 256, (xs.length : Int) / 256, (xs.length : Int) % 256] := rfl
    rw [e4] at ho2
    clear e4
    go_wp2_with (at_builtin; refine wpList_append_own _ rfl _ _ 22 rfl w0.heap.size 5 i0 (.int .u8 0) 1 1 Tryz.underlying22 hi hz0 hz1 hz2 rfl (by decide) _ 5 _ rfl ho2 ⟨b, off, none⟩ xs.length c (xs.map (Value.int .u8)) rfl (by simp) (unhide RC) (all_u8 _) (by unfold maxLen; omega) (by omega) (by omega) ?_)
    intro v3 w3 hown3 hgrow3 hnil3
    have O3 : Owns w3 w0.heap.size v3 (imgH id false xs) := by
      have := owns_apps (xs := [1, id / 256, id % 256, (xs.length : Int) / 256, (xs.length : Int) % 256]) rfl hown3
      exact this
    have HB3 := hide ((unhide HB).grown hgrow3 (by omega) (fun k hk => by have := (ho2.lt k hk).1; omega))
    have hs3 : w0.heap.size ≤ w3.heap.size := by have := hgrow3.size; omega
    have hv3 : v3 ≠ .slice none 0 0 := fun e => by subst e; have := congrArg List.length (owns_nonnil O3); simp [imgH] at this
    obtain ⟨g, cap, rfl, hr3⟩ := owns_row O3 hv3
    have HH := hide (imgH_bytes (gone := false) (unhide H8) g0 gid (by omega))
    have hl3 : (imgH id false xs).length ≤ 2000 := by rw [imgH_length]; omega
    have HI := hide (show imgL id false xs = imgH id false xs ++ four (crcV (imgH id false xs)) from rfl)
    have hcv := crcV_lt (unhide HH)
    clear hown3 hgrow3 hnil3 ho2 HB RC z2 hv3 R
    generalize imgH id false xs = ys at *
    go_wp2_with (first | (go_at_call 167; refine (crcOf_any (some ⟨g, 0, none⟩) ys.length cap ys w3 (by omega) hr3 (unhide HH)).mono ?_; rintro e w4 ⟨rfl, rfl⟩) | (at_builtin; refine wpList_append_own _ rfl _ _ 22 rfl w0.heap.size 5 i0 (.int .u8 0) 1 1 Tryz.underlying22 hi hz0 hz1 hz2 rfl (by decide) _ ys.length _ rfl (World.ownsRow.alloc O3 _) ⟨w4.heap.size, 0, none⟩ 4 4 [.int .u8 ((crcV ys : Int) / 16777216), .int .u8 ((crcV ys : Int) / 65536 % 256), .int .u8 ((crcV ys : Int) / 256 % 256), .int .u8 ((crcV ys : Int) % 256)] rfl rfl cells_new (four_u8 _ _ _ _) (by unfold maxLen; omega) (by omega) (by simp; omega) ?_))
    intro v5 w5 hown5 hgrow5 hnil5
    have O5 := hide (owns_down (owns_app4 hown5) (show w.heap.size ≤ w0.heap.size by omega))
    have B5 := hide (below_app (unhide HB3) (by omega) (owns_down O3 (show w.heap.size ≤ w0.heap.size by omega)) hgrow5)
    have N5 := hide (show v5 ≠ .slice none 0 0 from hnil5)
    clear hown5 hgrow5 hnil5 O3 HB3 hr3
    go_wp2_with fail
    go_ret
    exact ⟨_, rfl, by rw [unhide HI]; exact unhide O5, unhide N5, unhide B5⟩
end Go.Proofs.YtcflepnckjappaaGreat

namespace Go.Proofs.YtcflepnckjappaaGreat
open Go.RowKit

set_option maxRecDepth 100000 in
set_option maxHeartbeats 40000000 in
theorem imageBytes_true (id : Int) (b off c : Nat) (xs : List Int) (w : World) (h : imOK id true xs.length = true) (h1 : Row w (some ⟨b, off, none⟩) xs.length xs) (h8 : Bytes8 xs) :
    Calls Tryz.prog 81 #[iv id true (some ⟨b, off, none⟩) xs.length c] w fun e w' => ∃ v, e = .returned v ∧ Owns w' w.heap.size v (imgL id true xs) ∧ v ≠ .slice none 0 0 ∧ Below w.heap.size w w' := by
  obtain ⟨i0, hi, hz0, hz1, hz2⟩ := info_parts Tryz.infoU8
  obtain ⟨g0, g1, g2, g3⟩ := of_decide_eq_true h
  clear g3
  have H8 := hide h8
  have R := hide h1
  clear h h1 h8
  have hb0 : Below w.heap.size w (w.alloc (.cells #[.int .i64 id, .bool true, .slice (some ⟨b, off, none⟩) xs.length c] 72)) := (Below.refl _ _).alloc (Nat.le_refl _) _
  have x0 : (w.alloc (.cells #[.int .i64 id, .bool true, .slice (some ⟨b, off, none⟩) xs.length c] 72)).cell? ⟨w.heap.size, 0, none⟩ = some (.int .i64 id) := (cell_new1 rfl).trans rfl
  have x2 : (w.alloc (.cells #[.int .i64 id, .bool true, .slice (some ⟨b, off, none⟩) xs.length c] 72)).cell? ⟨w.heap.size, 2, none⟩ = some (.slice (some ⟨b, off, none⟩) xs.length c) := (cell_new1 rfl).trans rfl
  have hsz : (w.alloc (.cells #[.int .i64 id, .bool true, .slice (some ⟨b, off, none⟩) xs.length c] 72)).heap.size = w.heap.size + 1 := by simp
  go_enter Tryz.func81, Tryz.ntmps81
  go_wp2_with fail
  generalize w.alloc (.cells #[.int .i64 id, .bool true, .slice (some ⟨b, off, none⟩) xs.length c] 72) = w0 at *
  have O0 := hide (owns_one (w := w0) (B := w0.heap.size) 2 (Nat.le_refl _))
  have B1 := hide ((Below.refl w0.heap.size w0).alloc (Nat.le_refl _) (.cells #[.int .u8 2] 5))
  have HS := hide hsz
  have hlt : w.heap.size < w0.heap.size := by omega
  have gid : id ≤ 65535 := by omega
  have gl1 : [(2 : Int)].length ≤ 10000000 := by simp
  have gl2 : ([(2 : Int)] ++ [id / 256, id % 256]).length ≤ 10000000 := by simp
  have gl3 : (xs.length : Int) ≤ 65535 := by omega
  have gl0 : (0 : Int) ≤ (xs.length : Int) := by omega
  have hle : ∀ o, w0.heap.size ≤ (w0.alloc o).heap.size := fun o => by simp
  have HA := hide (appendTwo_any w0.heap.size (.slice (some ⟨w0.heap.size, 0, none⟩) 1 1) [2] id (w0.alloc (.cells #[.int .u8 2] 5)).drew (hle _) gl1 g0 gid (unhide O0))
  clear hsz O0
  go_region_with (first
    | (revert hb1; intro hb1; go_at_call 76; refine (appendTwo_any w0.heap.size v1 ([2] ++ [id / 256, id % 256]) (xs.length : Int) w1 hb1.size gl2 gl0 gl3 ho1).mono ?_; rintro e w2 ⟨v2, rfl, ho2, hb2⟩)
    | (go_at_call 76; refine (unhide HA).mono ?_; rintro e w1 ⟨v1, rfl, ho1, hb1⟩; replace hb1 : Below w0.heap.size w0 w1 := (unhide B1).trans ⟨hb1.os, hb1.tape, hb1.output, hb1.size, hb1.block⟩; have y2 := (hb1.cell (p := ⟨w.heap.size, 2, none⟩) hlt).trans x2))
  all_goals
    have hb3 : Below w0.heap.size w0 w2 := hb1.trans hb2
    have HB := hide (hb0.trans (hb3.mono (by omega)))
    have z2 := (hb3.cell (p := ⟨w.heap.size, 2, none⟩) hlt).trans x2
    have RC := hide (row_cells' (row_grow' (unhide R) (unhide HB)))
    have hs2 := hb3.size
    clear hb3 hb2 hb1 ho1 y2 x0 x2 HA B1 hle gl1 gl2 gl3 gl0 hb0
    have e4 : [(2 : Int)] ++ [id / 256, id % 256] ++ [(xs.length : Int) / 256, (xs.length : Int) % 256] = [2, id / 256, id % 256, (xs.length : Int) / 256, (xs.length : Int) % 256] := rfl
    rw [e4] at ho2
    clear e4
    go_wp2_with (at_builtin; refine wpList_append_own _ rfl _ _ 22 rfl w0.heap.size 5 i0 (.int .u8 0) 1 1 Tryz.underlying22 hi hz0 hz1 hz2 rfl (by decide) _ 5 _ rfl ho2 ⟨b, off, none⟩ xs.length c (xs.map (Value.int .u8)) rfl (by simp) (unhide RC) (all_u8 _) (by unfold maxLen; omega) (by omega) (by omega) ?_)
    intro v3 w3 hown3 hgrow3 hnil3
    have O3 : Owns w3 w0.heap.size v3 (imgH id true xs) := by
      have := owns_apps (xs := [2, id / 256, id % 256, (xs.length : Int) / 256, (xs.length : Int) % 256]) rfl hown3
      exact this
    have HB3 := hide ((unhide HB).grown hgrow3 (by omega) (fun k hk => by have := (ho2.lt k hk).1; omega))
    have hs3 : w0.heap.size ≤ w3.heap.size := by have := hgrow3.size; omega
    have hv3 : v3 ≠ .slice none 0 0 := fun e => by subst e; have := congrArg List.length (owns_nonnil O3); simp [imgH] at this
    obtain ⟨g, cap, rfl, hr3⟩ := owns_row O3 hv3
    have HH := hide (imgH_bytes (gone := true) (unhide H8) g0 gid (by omega))
    have hl3 : (imgH id true xs).length ≤ 2000 := by rw [imgH_length]; omega
    have HI := hide (show imgL id true xs = imgH id true xs ++ four (crcV (imgH id true xs)) from rfl)
    have hcv := crcV_lt (unhide HH)
    clear hown3 hgrow3 hnil3 ho2 HB RC z2 hv3 R
    generalize imgH id true xs = ys at *
    go_wp2_with (first | (go_at_call 167; refine (crcOf_any (some ⟨g, 0, none⟩) ys.length cap ys w3 (by omega) hr3 (unhide HH)).mono ?_; rintro e w4 ⟨rfl, rfl⟩) | (at_builtin; refine wpList_append_own _ rfl _ _ 22 rfl w0.heap.size 5 i0 (.int .u8 0) 1 1 Tryz.underlying22 hi hz0 hz1 hz2 rfl (by decide) _ ys.length _ rfl (World.ownsRow.alloc O3 _) ⟨w4.heap.size, 0, none⟩ 4 4 [.int .u8 ((crcV ys : Int) / 16777216), .int .u8 ((crcV ys : Int) / 65536 % 256), .int .u8 ((crcV ys : Int) / 256 % 256), .int .u8 ((crcV ys : Int) % 256)] rfl rfl cells_new (four_u8 _ _ _ _) (by unfold maxLen; omega) (by omega) (by simp; omega) ?_))
    intro v5 w5 hown5 hgrow5 hnil5
    have O5 := hide (owns_down (owns_app4 hown5) (show w.heap.size ≤ w0.heap.size by omega))
    have B5 := hide (below_app (unhide HB3) (by omega) (owns_down O3 (show w.heap.size ≤ w0.heap.size by omega)) hgrow5)
    have N5 := hide (show v5 ≠ .slice none 0 0 from hnil5)
    clear hown5 hgrow5 hnil5 O3 HB3 hr3
    go_wp2_with fail
    go_ret
    exact ⟨_, rfl, by rw [unhide HI]; exact unhide O5, unhide N5, unhide B5⟩
end Go.Proofs.YtcflepnckjappaaGreat

namespace Go.Proofs.YtcflepnckjappaaGreat
open Go.RowKit

theorem crcBit_even {c : Nat} (h : ¬ c % 2 = 1) : ((c / 2 : Nat) : Int) = ((crcBit c : Nat) : Int) := by unfold crcBit; rw [if_neg h]
theorem crcBit_odd_i64 {c : Nat} (hc : c < 4294967296) (h : c % 2 = 1) : bits .xor .i64 ((c : Int) / 2) 3988292384 = ((crcBit c : Nat) : Int) := by
  unfold crcBit
  rw [if_pos h]
  have := i64_xor_nat (c / 2) 3988292384 (by omega) (by omega)
  rw [← this]
  rfl
set_option maxHeartbeats 1000000 in
theorem l03Crc_any (a : Option Addr) (n c : Nat) (xs : List Int) (w : World) (hn : n ≤ 1048576) (h1 : Row w a n xs) (h8 : Bytes8 xs) :
    Calls Tryz.prog 279 #[.slice a n c] w fun e w' => e = .returned (.int .i64 ((crcV xs : Nat) : Int)) ∧ w' = w := by
  have L1 := hide h1.1
  have H1 := hide h1.2
  have H8 := hide h8
  clear h1 h8
  go_enter Tryz.func279, Tryz.ntmps279
  go_wp2_with fail
  go_loop [3, 4] (fun s i => ∃ k : Nat, k ≤ n ∧ i = .int .i64 k ∧ s = .int .i64 ((crcSum (xs.take k) : Nat) : Int)) (fun _ i => n - (intOf i).toNat)
  case atStart => exact ⟨0, Nat.zero_le _, rfl, rfl⟩
  case round =>
    obtain ⟨k, hk, rfl, rfl⟩ := hrel
    by_cases hlt : k < n
    · obtain ⟨b, off, rfl, e1⟩ := unhide H1 k hlt
      have hx := unhide H8 k (by rw [unhide L1]; exact hlt)
      have hs := crcSum_take_lt (unhide H8) k (by rw [unhide L1]; omega)
      have SN := hide (crcSum_snoc xs k (by rw [unhide L1]; exact hlt))
      generalize xs.getD k 0 = x at *
      generalize crcSum (xs.take k) = s at *
      have hxx : bits .xor .i64 (s : Int) x = ((s ^^^ x.toNat : Nat) : Int) := by
        have := i64_xor_nat s x.toNat hs (by omega)
        rwa [Int.toNat_of_nonneg hx.1] at this
      have hS := hide (xor32 hs (show x.toNat < 4294967296 by omega))
      have SN2 := hide (show crcSum (xs.take (k + 1)) = crcBits (s ^^^ x.toNat) 8 from unhide SN)
      clear SN
      generalize s ^^^ x.toNat = t at *
      go_wp2_with fail
      go_loop [3, 5] (fun s i => ∃ j : Nat, j ≤ 8 ∧ i = .int .i64 j ∧ s = .int .i64 ((crcBits t j : Nat) : Int)) (fun _ i => 8 - (intOf i).toNat)
      case atStart => exact ⟨0, Nat.zero_le _, rfl, rfl⟩
      case round =>
        obtain ⟨j, hj, rfl, rfl⟩ := hrel
        by_cases hlt8 : j < 8
        · have hb := crcBits_lt (unhide hS) j
          have HE := hide (show crcBits t (j + 1) = crcBit (crcBits t j) from rfl)
          generalize crcBits t j = u at *
          by_cases ho : u % 2 = 1
          · have q : ((u : Int) % 2 == 1) = true := by simp; omega
            have hr := crcBit_odd_i64 hb ho
            clear ho
            go_wp2_with fail
            go_round
            case rel => exact ⟨j + 1, by omega, by go_num, by rw [unhide HE]⟩
            case measure => simp [intOf]; omega
          · have q : ((u : Int) % 2 == 1) = false := by simp; omega
            have hr := hide (crcBit_even ho)
            clear ho
            go_wp2_with fail
            go_round
            case rel => exact ⟨j + 1, by omega, by go_num, by rw [unhide HE, ← unhide hr]; rfl⟩
            case measure => simp [intOf]; omega
        · obtain rfl : j = 8 := by omega
          go_wp2_with fail
          go_round
          case rel => exact ⟨k + 1, by omega, by go_num, by rw [unhide SN2]⟩
          case measure => simp [intOf]; omega
    · obtain rfl : k = n := by omega
      rw [List.take_of_length_le (by rw [unhide L1]; exact Nat.le_refl _)]
      have HV := hide (show bits .xor .i64 ((crcSum xs : Nat) : Int) 4294967295 = ((crcV xs : Nat) : Int) from i64_xor_nat _ 4294967295 (crcSum_lt (unhide H8)) (by omega))
      generalize crcSum xs = s at *
      go_wp2_with fail
      go_ret
      exact ⟨ret_int (unhide HV), rfl⟩
end Go.Proofs.YtcflepnckjappaaGreat

namespace Go.Proofs.YtcflepnckjappaaGreat
open Go.RowKit

theorem l01In_i (p lo hi : Int) (w : World) : Calls Tryz.prog 129 #[.int .i64 p, .int .i64 lo, .int .i64 hi] w fun e w' => e = .returned (.bool (decide (lo ≤ p) && decide (p ≤ hi))) ∧ w' = w := by
  go_enter Tryz.func129, Tryz.ntmps129
  go_wp2_with fail
  all_goals go_ret
  all_goals exact ⟨ret_bool (by simp_all; try omega), rfl⟩
set_option maxHeartbeats 1000000 in
theorem l03Image_any (id : Int) (gone : Bool) (a : Option Addr) (n c : Nat) (w : World) (hn : n ≤ maxLen) :
    Calls Tryz.prog 212 #[iv id gone a n c] w fun e w' => e = .returned (.bool (imOK id gone n)) ∧ Below w.heap.size w w' := by
  unfold maxLen at hn
  have B0 : ∀ o, Below w.heap.size w (w.alloc o) := fun o => (Below.refl _ _).alloc (Nat.le_refl _) _
  by_cases h1 : 0 ≤ id ∧ id ≤ 1000
  · have hI : ∀ w, Calls Tryz.prog 129 #[.int .i64 id, .int .i64 0, .int .i64 1000] w fun e w' => e = .returned (.bool true) ∧ w' = w := fun w => by
      have := l01In_i id 0 1000 w
      rwa [decide_eq_true h1.1, decide_eq_true h1.2] at this
    have HI := hide hI
    clear hI
    cases gone
    all_goals
      go_enter Tryz.func212, Tryz.ntmps212
      go_wp2_with (go_at_call 129; refine (unhide HI _).mono ?_; rintro e w1 ⟨rfl, rfl⟩)
      all_goals go_ret
      all_goals exact ⟨ret_bool (by rw [Bool.eq_iff_iff]; simp_all [imOK]; try omega), B0 _⟩
  · have hI : ∀ w, Calls Tryz.prog 129 #[.int .i64 id, .int .i64 0, .int .i64 1000] w fun e w' => e = .returned (.bool false) ∧ w' = w := fun w => by
      have := l01In_i id 0 1000 w
      have e : (decide (0 ≤ id) && decide (id ≤ 1000)) = false := by rw [← Bool.decide_and]; exact decide_eq_false h1
      rwa [e] at this
    have HI := hide hI
    clear hI
    go_enter Tryz.func212, Tryz.ntmps212
    go_wp2_with (go_at_call 129; refine (unhide HI _).mono ?_; rintro e w1 ⟨rfl, rfl⟩)
    go_ret
    exact ⟨ret_bool (imOK_no (fun h => h1 ⟨h.1, h.2.1⟩)).symm, B0 _⟩
set_option maxRecDepth 100000 in
set_option maxHeartbeats 4000000 in
theorem l03Bytes_false (id : Int) (b off c : Nat) (xs : List Int) (w : World) (h : imOK id false xs.length = true) (h1 : Row w (some ⟨b, off, none⟩) xs.length xs) (h8 : Bytes8 xs) :
    Calls Tryz.prog 210 #[iv id false (some ⟨b, off, none⟩) xs.length c] w fun e w' => ∃ v, e = .returned v ∧ Owns w' w.heap.size v (imgL id false xs) ∧ v ≠ .slice none 0 0 ∧ Below w.heap.size w w' := by
  obtain ⟨i0, hi, hz0, hz1, hz2⟩ := info_parts Tryz.infoU8
  obtain ⟨g0, g1, g2, g3⟩ := of_decide_eq_true h
  clear g3
  have H8 := hide h8
  have R := hide h1
  clear h h1 h8
  have hb0 : Below w.heap.size w (w.alloc (.cells #[.int .i64 id, .bool false, .slice (some ⟨b, off, none⟩) xs.length c] 72)) := (Below.refl _ _).alloc (Nat.le_refl _) _
  have x0 : (w.alloc (.cells #[.int .i64 id, .bool false, .slice (some ⟨b, off, none⟩) xs.length c] 72)).cell? ⟨w.heap.size, 0, none⟩ = some (.int .i64 id) := (cell_new1 rfl).trans rfl
  have x1 : (w.alloc (.cells #[.int .i64 id, .bool false, .slice (some ⟨b, off, none⟩) xs.length c] 72)).cell? ⟨w.heap.size, 1, none⟩ = some (.bool false) := (cell_new1 rfl).trans rfl
  have x2 : (w.alloc (.cells #[.int .i64 id, .bool false, .slice (some ⟨b, off, none⟩) xs.length c] 72)).cell? ⟨w.heap.size, 2, none⟩ = some (.slice (some ⟨b, off, none⟩) xs.length c) := (cell_new1 rfl).trans rfl
  have hsz : (w.alloc (.cells #[.int .i64 id, .bool false, .slice (some ⟨b, off, none⟩) xs.length c] 72)).heap.size = w.heap.size + 1 := by simp
  have q1 : (xs.length : Int) / 256 % 256 = (xs.length : Int) / 256 := by omega
  have q2 : id / 256 % 256 = id / 256 := by omega
  have O0 : Owns ((w.alloc (.cells #[.int .i64 id, .bool false, .slice (some ⟨b, off, none⟩) xs.length c] 72)).alloc (.cells #[.int .u8 1, .int .u8 (id / 256), .int .u8 (id % 256), .int .u8 ((xs.length : Int) / 256), .int .u8 ((xs.length : Int) % 256)] 5)) (w.heap.size + 1) (.slice (some ⟨w.heap.size + 1, 0, none⟩) 5 5) [1, id / 256, id % 256, (xs.length : Int) / 256, (xs.length : Int) % 256] := by
    have := World.ownsRow_lit (base := w.heap.size + 1) (e := 5) (size := 1) (w.alloc (.cells #[.int .i64 id, .bool false, .slice (some ⟨b, off, none⟩) xs.length c] 72)) #[.int .u8 1, .int .u8 (id / 256), .int .u8 (id % 256), .int .u8 ((xs.length : Int) / 256), .int .u8 ((xs.length : Int) % 256)] 5 (by simp) (by unfold maxLen; simp) rfl
    rw [hsz] at this
    exact this
  have HO := hide O0
  have HBB := hide (hb0.alloc (by rw [hsz]; omega) (.cells #[.int .u8 1, .int .u8 (id / 256), .int .u8 (id % 256), .int .u8 ((xs.length : Int) / 256), .int .u8 ((xs.length : Int) % 256)] 5))
  clear O0
  clear hsz
  go_enter Tryz.func210, Tryz.ntmps210
  go_wp2_with (at_builtin; refine wpList_append_own _ rfl _ _ 22 rfl (w.heap.size + 1) 5 i0 (.int .u8 0) 1 1 Tryz.underlying22 hi hz0 hz1 hz2 rfl (by decide) _ 5 _ rfl (unhide HO) ⟨b, off, none⟩ xs.length c (xs.map (Value.int .u8)) rfl (by simp) (row_cells' (row_grow' (unhide R) (unhide HBB))) (all_u8 _) (by unfold maxLen; omega) (by omega) (by simp) ?_)
  intro v3 w3 hown3 hgrow3 hnil3
  have O3 : Owns w3 (w.heap.size + 1) v3 (imgH id false xs) := owns_apps (xs := [1, id / 256, id % 256, (xs.length : Int) / 256, (xs.length : Int) % 256]) rfl hown3
  have HB3 := hide ((unhide HBB).grown hgrow3 (by simp; omega) (fun k hk => by cases hk; simp))
  have hs3 : w.heap.size + 1 ≤ w3.heap.size := by have := hgrow3.size; simp at this; omega
  have hv3 : v3 ≠ .slice none 0 0 := fun e => by subst e; have := congrArg List.length (owns_nonnil O3); simp [imgH] at this
  obtain ⟨g, cap, rfl, hr3⟩ := owns_row O3 hv3
  have HH := hide (imgH_bytes (gone := false) (unhide H8) g0 (show id ≤ 65535 by omega) (show xs.length ≤ 65535 by omega))
  have hl3 : (imgH id false xs).length ≤ 2000 := by rw [imgH_length]; omega
  have HI := hide (show imgL id false xs = imgH id false xs ++ four (crcV (imgH id false xs)) from rfl)
  have hcv := crcV_lt (unhide HH)
  clear hown3 hgrow3 hnil3 HO HBB hv3 R x0 x1 x2 hb0 H8 q1 q2
  generalize imgH id false xs = ys at *
  have q3 : (crcV ys : Int) / 16777216 % 256 = (crcV ys : Int) / 16777216 := by omega
  go_wp2_with (first | (go_at_call 279; refine (l03Crc_any (some ⟨g, 0, none⟩) ys.length cap ys w3 (by omega) hr3 (unhide HH)).mono ?_; rintro e w4 ⟨rfl, rfl⟩) | (at_builtin; refine wpList_append_own _ rfl _ _ 22 rfl (w.heap.size + 1) 5 i0 (.int .u8 0) 1 1 Tryz.underlying22 hi hz0 hz1 hz2 rfl (by decide) _ ys.length _ rfl (World.ownsRow.alloc O3 _) ⟨w4.heap.size, 0, none⟩ 4 4 [.int .u8 ((crcV ys : Int) / 16777216), .int .u8 ((crcV ys : Int) / 65536 % 256), .int .u8 ((crcV ys : Int) / 256 % 256), .int .u8 ((crcV ys : Int) % 256)] rfl rfl cells_new (four_u8 _ _ _ _) (by unfold maxLen; omega) (by omega) (by simp; omega) ?_))
  intro v5 w5 hown5 hgrow5 hnil5
  have O5 := hide (owns_down (owns_app4 hown5) (show w.heap.size ≤ w.heap.size + 1 by omega))
  have B5 := hide (below_app (unhide HB3) (by omega) (owns_down O3 (show w.heap.size ≤ w.heap.size + 1 by omega)) hgrow5)
  have N5 := hide (show v5 ≠ .slice none 0 0 from hnil5)
  clear hown5 hgrow5 hnil5 O3 HB3 hr3
  go_wp2_with fail
  go_ret
  exact ⟨_, rfl, by rw [unhide HI]; exact unhide O5, unhide N5, unhide B5⟩
set_option maxRecDepth 100000 in
set_option maxHeartbeats 4000000 in
theorem l03Bytes_true (id : Int) (b off c : Nat) (xs : List Int) (w : World) (h : imOK id true xs.length = true) (h1 : Row w (some ⟨b, off, none⟩) xs.length xs) (h8 : Bytes8 xs) :
    Calls Tryz.prog 210 #[iv id true (some ⟨b, off, none⟩) xs.length c] w fun e w' => ∃ v, e = .returned v ∧ Owns w' w.heap.size v (imgL id true xs) ∧ v ≠ .slice none 0 0 ∧ Below w.heap.size w w' := by
  obtain ⟨i0, hi, hz0, hz1, hz2⟩ := info_parts Tryz.infoU8
  obtain ⟨g0, g1, g2, g3⟩ := of_decide_eq_true h
  clear g3
  have H8 := hide h8
  have R := hide h1
  clear h h1 h8
  have hb0 : Below w.heap.size w (w.alloc (.cells #[.int .i64 id, .bool true, .slice (some ⟨b, off, none⟩) xs.length c] 72)) := (Below.refl _ _).alloc (Nat.le_refl _) _
  have x0 : (w.alloc (.cells #[.int .i64 id, .bool true, .slice (some ⟨b, off, none⟩) xs.length c] 72)).cell? ⟨w.heap.size, 0, none⟩ = some (.int .i64 id) := (cell_new1 rfl).trans rfl
  have x1 : (w.alloc (.cells #[.int .i64 id, .bool true, .slice (some ⟨b, off, none⟩) xs.length c] 72)).cell? ⟨w.heap.size, 1, none⟩ = some (.bool true) := (cell_new1 rfl).trans rfl
  have x2 : (w.alloc (.cells #[.int .i64 id, .bool true, .slice (some ⟨b, off, none⟩) xs.length c] 72)).cell? ⟨w.heap.size, 2, none⟩ = some (.slice (some ⟨b, off, none⟩) xs.length c) := (cell_new1 rfl).trans rfl
  have hsz : (w.alloc (.cells #[.int .i64 id, .bool true, .slice (some ⟨b, off, none⟩) xs.length c] 72)).heap.size = w.heap.size + 1 := by simp
  have q1 : (xs.length : Int) / 256 % 256 = (xs.length : Int) / 256 := by omega
  have q2 : id / 256 % 256 = id / 256 := by omega
  have O0 : Owns ((w.alloc (.cells #[.int .i64 id, .bool true, .slice (some ⟨b, off, none⟩) xs.length c] 72)).alloc (.cells #[.int .u8 2, .int .u8 (id / 256), .int .u8 (id % 256), .int .u8 ((xs.length : Int) / 256), .int .u8 ((xs.length : Int) % 256)] 5)) (w.heap.size + 1) (.slice (some ⟨w.heap.size + 1, 0, none⟩) 5 5) [2, id / 256, id % 256, (xs.length : Int) / 256, (xs.length : Int) % 256] := by
    have := World.ownsRow_lit (base := w.heap.size + 1) (e := 5) (size := 1) (w.alloc (.cells #[.int .i64 id, .bool true, .slice (some ⟨b, off, none⟩) xs.length c] 72)) #[.int .u8 2, .int .u8 (id / 256), .int .u8 (id % 256), .int .u8 ((xs.length : Int) / 256), .int .u8 ((xs.length : Int) % 256)] 5 (by simp) (by unfold maxLen; simp) rfl
    rw [hsz] at this
    exact this
  have HO := hide O0
  have HBB := hide (hb0.alloc (by rw [hsz]; omega) (.cells #[.int .u8 2, .int .u8 (id / 256), .int .u8 (id % 256), .int .u8 ((xs.length : Int) / 256), .int .u8 ((xs.length : Int) % 256)] 5))
  clear O0
  clear hsz
  go_enter Tryz.func210, Tryz.ntmps210
  go_wp2_with (at_builtin; refine wpList_append_own _ rfl _ _ 22 rfl (w.heap.size + 1) 5 i0 (.int .u8 0) 1 1 Tryz.underlying22 hi hz0 hz1 hz2 rfl (by decide) _ 5 _ rfl (unhide HO) ⟨b, off, none⟩ xs.length c (xs.map (Value.int .u8)) rfl (by simp) (row_cells' (row_grow' (unhide R) (unhide HBB))) (all_u8 _) (by unfold maxLen; omega) (by omega) (by simp) ?_)
  intro v3 w3 hown3 hgrow3 hnil3
  have O3 : Owns w3 (w.heap.size + 1) v3 (imgH id true xs) := owns_apps (xs := [2, id / 256, id % 256, (xs.length : Int) / 256, (xs.length : Int) % 256]) rfl hown3
  have HB3 := hide ((unhide HBB).grown hgrow3 (by simp; omega) (fun k hk => by cases hk; simp))
  have hs3 : w.heap.size + 1 ≤ w3.heap.size := by have := hgrow3.size; simp at this; omega
  have hv3 : v3 ≠ .slice none 0 0 := fun e => by subst e; have := congrArg List.length (owns_nonnil O3); simp [imgH] at this
  obtain ⟨g, cap, rfl, hr3⟩ := owns_row O3 hv3
  have HH := hide (imgH_bytes (gone := true) (unhide H8) g0 (show id ≤ 65535 by omega) (show xs.length ≤ 65535 by omega))
  have hl3 : (imgH id true xs).length ≤ 2000 := by rw [imgH_length]; omega
  have HI := hide (show imgL id true xs = imgH id true xs ++ four (crcV (imgH id true xs)) from rfl)
  have hcv := crcV_lt (unhide HH)
  clear hown3 hgrow3 hnil3 HO HBB hv3 R x0 x1 x2 hb0 H8 q1 q2
  generalize imgH id true xs = ys at *
  have q3 : (crcV ys : Int) / 16777216 % 256 = (crcV ys : Int) / 16777216 := by omega
  go_wp2_with (first | (go_at_call 279; refine (l03Crc_any (some ⟨g, 0, none⟩) ys.length cap ys w3 (by omega) hr3 (unhide HH)).mono ?_; rintro e w4 ⟨rfl, rfl⟩) | (at_builtin; refine wpList_append_own _ rfl _ _ 22 rfl (w.heap.size + 1) 5 i0 (.int .u8 0) 1 1 Tryz.underlying22 hi hz0 hz1 hz2 rfl (by decide) _ ys.length _ rfl (World.ownsRow.alloc O3 _) ⟨w4.heap.size, 0, none⟩ 4 4 [.int .u8 ((crcV ys : Int) / 16777216), .int .u8 ((crcV ys : Int) / 65536 % 256), .int .u8 ((crcV ys : Int) / 256 % 256), .int .u8 ((crcV ys : Int) % 256)] rfl rfl cells_new (four_u8 _ _ _ _) (by unfold maxLen; omega) (by omega) (by simp; omega) ?_))
  intro v5 w5 hown5 hgrow5 hnil5
  have O5 := hide (owns_down (owns_app4 hown5) (show w.heap.size ≤ w.heap.size + 1 by omega))
  have B5 := hide (below_app (unhide HB3) (by omega) (owns_down O3 (show w.heap.size ≤ w.heap.size + 1 by omega)) hgrow5)
  have N5 := hide (show v5 ≠ .slice none 0 0 from hnil5)
  clear hown5 hgrow5 hnil5 O3 HB3 hr3
  go_wp2_with fail
  go_ret
  exact ⟨_, rfl, by rw [unhide HI]; exact unhide O5, unhide N5, unhide B5⟩
theorem l03Bytes_any0 (id : Int) (gone : Bool) (b off c : Nat) (xs : List Int) (w : World) (h : imOK id gone xs.length = true) (h1 : Row w (some ⟨b, off, none⟩) xs.length xs) (h8 : Bytes8 xs) :
    Calls Tryz.prog 210 #[iv id gone (some ⟨b, off, none⟩) xs.length c] w fun e w' => ∃ v, e = .returned v ∧ Owns w' w.heap.size v (imgL id gone xs) ∧ v ≠ .slice none 0 0 ∧ Below w.heap.size w w' := by
  cases gone
  · exact l03Bytes_false id b off c xs w h h1 h8
  · exact l03Bytes_true id b off c xs w h h1 h8
theorem l03Bytes_any (id : Int) (gone : Bool) (b off c : Nat) (xs : List Int) (w : World) (_ : xs.length ≤ c) (h : imOK id gone xs.length = true) (h1 : Row w (some ⟨b, off, none⟩) xs.length xs) (h8 : Bytes8 xs) :
    Calls Tryz.prog 210 #[iv id gone (some ⟨b, off, none⟩) xs.length c] w fun e w' => ∃ v, e = .returned v ∧ Owns w' w.heap.size v (imgL id gone xs) ∧ v ≠ .slice none 0 0 ∧ Below w.heap.size w w' := l03Bytes_any0 id gone b off c xs w h h1 h8
end Go.Proofs.YtcflepnckjappaaGreat

namespace Go.Proofs.YtcflepnckjappaaGreat
open Go.RowKit

theorem imageBytes_any0 (id : Int) (gone : Bool) (b off c : Nat) (xs : List Int) (w : World) (h : imOK id gone xs.length = true) (h1 : Row w (some ⟨b, off, none⟩) xs.length xs) (h8 : Bytes8 xs) :
    Calls Tryz.prog 81 #[iv id gone (some ⟨b, off, none⟩) xs.length c] w fun e w' => ∃ v, e = .returned v ∧ Owns w' w.heap.size v (imgL id gone xs) ∧ v ≠ .slice none 0 0 ∧ Below w.heap.size w w' := by
  cases gone
  · exact imageBytes_false id b off c xs w h h1 h8
  · exact imageBytes_true id b off c xs w h h1 h8
theorem imageBytes_any (id : Int) (gone : Bool) (b off c : Nat) (xs : List Int) (w : World) (_ : xs.length ≤ c) (h : imOK id gone xs.length = true) (h1 : Row w (some ⟨b, off, none⟩) xs.length xs) (h8 : Bytes8 xs) :
    Calls Tryz.prog 81 #[iv id gone (some ⟨b, off, none⟩) xs.length c] w fun e w' => ∃ v, e = .returned v ∧ Owns w' w.heap.size v (imgL id gone xs) ∧ v ≠ .slice none 0 0 ∧ Below w.heap.size w w' := imageBytes_any0 id gone b off c xs w h h1 h8
end Go.Proofs.YtcflepnckjappaaGreat

namespace Go.Proofs.YtcflepnckjappaaGreat
open Go.RowKit

/-- What imageAt gives. -/
def ImRes (xs : List Int) (p : Nat) (w : World) (e : Ending) (w' : World) : Prop :=
  (nextI xs p = none ∧ e = .returned (.tuple #[iv 0 false none 0 0, .int .i64 0, .bool false]) ∧ Below w.heap.size w w') ∨
  ∃ x g cap, nextI xs p = some x ∧ e = .returned (.tuple #[iv x.id x.gone (some ⟨g, 0, none⟩) x.xs.length cap, .int .i64 ((p + 9 + x.xs.length : Nat) : Int), .bool true]) ∧ Owns w' w.heap.size (.slice (some ⟨g, 0, none⟩) x.xs.length cap) x.xs ∧ Below w.heap.size w w'
/-- The image in a box, its bytes in a row of their own. -/
structure ImBox (W : World) (B xb g cp : Nat) (X : ImD) (wc : World) : Prop where
  box : wc.heap[xb]? = some (.cells #[.int .i64 X.id, .bool X.gone, .slice (some ⟨g, 0, none⟩) X.xs.length cp] 72 (0, 0))
  own : Owns wc B (.slice (some ⟨g, 0, none⟩) X.xs.length cp) X.xs
  ne : g ≠ xb
  ge : B ≤ xb
  bel : Below B W wc
theorem sc_set3 {w : World} {b : Nat} {x y z : Value} {t : TypeId} (h : w.heap[b]? = some (.cells #[x, y, z] t (0, 0))) (u v r : Value) : (((w.setCell ⟨b, 0, none⟩ u).setCell ⟨b, 1, none⟩ v).setCell ⟨b, 2, none⟩ r).heap[b]? = some (.cells #[u, v, r] t (0, 0)) := by
  rw [heap_set (heap_set (heap_set h 0 u) 1 v) 2 r]
  rfl
theorem sc_owns_set {w : World} {B b g n c j : Nat} {xs : List Int} (h : Owns w B (.slice (some ⟨g, 0, none⟩) n c) xs) (hne : g ≠ b) (v : Value) : Owns (w.setCell ⟨b, j, none⟩ v) B (.slice (some ⟨g, 0, none⟩) n c) xs :=
  ownsRow_heap h (fun k hk => by
    have : k = g := by simpa [Value.ownBlock] using hk.symm
    subst this
    exact Below.heap_setCell _ _ _ _ hne)
theorem ImBox.of_store {W : World} {B xb g cp : Nat} {X : ImD} {w : World} {t : Value} (hk : w.heap[xb]? = some (.cells #[.int .i64 0, .bool false, t] 72 (0, 0))) (ho : Owns w B (.slice (some ⟨g, 0, none⟩) X.xs.length cp) X.xs) (hne : g ≠ xb) (hge : B ≤ xb) (hb : Below B W w) :
    ImBox W B xb g cp X (((w.setCell ⟨xb, 0, none⟩ (.int .i64 X.id)).setCell ⟨xb, 1, none⟩ (.bool X.gone)).setCell ⟨xb, 2, none⟩ (.slice (some ⟨g, 0, none⟩) X.xs.length cp)) :=
  ⟨sc_set3 hk _ _ _, sc_owns_set (sc_owns_set (sc_owns_set ho hne _) hne _) hne _, hne, hge, ((hb.setCell (p := ⟨xb, 0, none⟩) hge _).setCell (p := ⟨xb, 1, none⟩) hge _).setCell (p := ⟨xb, 2, none⟩) hge _⟩
theorem ImBox.of_new {W : World} {B g cp : Nat} {X : ImD} {w : World} (ho : Owns w B (.slice (some ⟨g, 0, none⟩) X.xs.length cp) X.xs) (hb : Below B W w) :
    ImBox W B w.heap.size g cp X (w.alloc (.cells #[.int .i64 X.id, .bool X.gone, .slice (some ⟨g, 0, none⟩) X.xs.length cp] 72)) :=
  ⟨heap_alloc_new _ _, owns_below ho ((Below.refl _ _).alloc (Nat.le_refl _) _), fun e => by have := (ho.lt g rfl).2; omega, by have := ho.lt g rfl; omega, hb.alloc (by have := ho.lt g rfl; omega) _⟩
theorem sc_at_below {w w' : World} {b : Nat} {o : Obj} (h : w.heap[b]? = some o) (hb : Below w.heap.size w w') : w'.heap[b]? = some o := (hb.block b (Array.getElem?_eq_some_iff.1 h).1).trans h
theorem sc_g {w : World} {B g n c : Nat} {xs : List Int} (h : Owns w B (.slice (some ⟨g, 0, none⟩) n c) xs) : B ≤ g ∧ g < w.heap.size := h.lt g rfl
theorem sc_down {w : World} {B C : Nat} {v : Value} {xs : List Int} (h : Owns w B v xs) (hc : C ≤ B) : Owns w C v xs := by
  refine ⟨h.1, ?_⟩
  rcases h.2 with h | ⟨g, cap, cur, e, hb, r⟩
  · exact .inl h
  · exact .inr ⟨g, cap, cur, e, Nat.le_trans hc hb, r⟩
set_option maxRecDepth 100000 in
set_option maxHeartbeats 8000000 in
theorem imageAt_any (a : Option Addr) (n c p : Nat) (xs : List Int) (w : World) (hR : Row w a n xs) (h8 : Bytes8 xs) (hp : p ≤ n) (hn : n ≤ 65536) (hc : n ≤ c) (hc2 : c ≤ maxLen) (ha : a = none → c = 0) :
    Calls Tryz.prog 214 #[.slice a n c, .int .i64 (p : Int)] w fun e w' => ImRes xs p w e w' := by
  unfold maxLen at hc2
  obtain rfl := hR.1
  have b0 : Below w.heap.size w (w.alloc (.cells #[.int .i64 0, .bool false, .slice none 0 0] 72)) := (Below.refl _ _).alloc (Nat.le_refl _) _
  have KR := hide (heap_alloc_new w (.cells #[.int .i64 0, .bool false, .slice none 0 0] 72))
  have zs : (w.alloc (.cells #[.int .i64 0, .bool false, .slice none 0 0] 72)).heap.size = w.heap.size + 1 := by simp
  have q3 : w.heap.size ≤ w.heap.size := Nat.le_refl _
  have RR := hide (row_grow' hR b0)
  have HB := hide h8
  have SB : ∀ u : World, Below w.heap.size w u → Below w.heap.size w (((u.setCell ⟨w.heap.size, 0, none⟩ (.int .i64 0)).setCell ⟨w.heap.size, 1, none⟩ (.bool false)).setCell ⟨w.heap.size, 2, none⟩ (.slice none 0 0)) := fun u hu => ((hu.setCell (p := ⟨w.heap.size, 0, none⟩) q3 _).setCell (p := ⟨w.heap.size, 1, none⟩) q3 _).setCell (p := ⟨w.heap.size, 2, none⟩) q3 _
  have NO := hide (show ∀ u : World, nextI xs p = none → Below w.heap.size w u → ImRes xs p w (.returned (.tuple #[iv 0 false none 0 0, .int .i64 0, .bool false])) u from fun u h hu => .inl ⟨h, rfl, hu⟩)
  by_cases h5 : ¬ (p + 5 ≤ xs.length)
  · have g5 : (xs.length : Int) - (p : Int) < 5 := by omega
    have wr1 : IntKind.i64.wrap ((xs.length : Int) - (p : Int)) = (xs.length : Int) - (p : Int) := by rw [IntKind.wrap_i64]; omega
    have NN := hide (next_no (b := xs) (p := p) (fun h => h5 h.1))
    clear hR h8 RR HB
    go_enter Tryz.func214, Tryz.ntmps214
    go_wp2_with fail
    generalize w.alloc (.cells #[.int .i64 0, .bool false, .slice none 0 0] 72) = W at *
    have y0 : W.cell? ⟨w.heap.size, 0, none⟩ = some (.int .i64 0) := (heap_at (unhide KR) 0).1
    have y1 : W.cell? ⟨w.heap.size, 1, none⟩ = some (.bool false) := (heap_at (unhide KR) 1).1
    have y2 : W.cell? ⟨w.heap.size, 2, none⟩ = some (.slice none 0 0) := (heap_at (unhide KR) 2).1
    have f0 : W.frozen? ⟨w.heap.size, 0, none⟩ = false := (heap_at (unhide KR) 0).2
    have f1 : W.frozen? ⟨w.heap.size, 1, none⟩ = false := (heap_at (unhide KR) 1).2
    have f2 : W.frozen? ⟨w.heap.size, 2, none⟩ = false := (heap_at (unhide KR) 2).2
    go_wp2_with fail
    refine bodyPost_ret (v := .tuple #[iv 0 false none 0 0, .int .i64 0, .bool false]) (by unfold iv; simp [results, Tryz.results214, go_sem, *] <;> rfl) rfl ?_
    first | exact unhide NO _ (unhide NN) b0 | exact unhide NO _ (unhide NN) (SB _ b0)
  replace h5 := Decidable.not_not.1 h5
  have g5 : ¬ ((xs.length : Int) - (p : Int) < 5) := by omega
  have wr1 : IntKind.i64.wrap ((xs.length : Int) - (p : Int)) = (xs.length : Int) - (p : Int) := by rw [IntKind.wrap_i64]; omega
  have wr2 : IntKind.i64.wrap ((p : Int) + 3) = (p : Int) + 3 := by rw [IntKind.wrap_i64]; omega
  have wr3 : IntKind.i64.wrap ((p : Int) + 5) = (p : Int) + 5 := by rw [IntKind.wrap_i64]; omega
  have T3 := hide (show ∀ u, Below w.heap.size w u → Calls Tryz.prog 252 #[.slice a xs.length c, .int .i64 ((p : Int) + 3)] u fun e w' => e = .returned (.int .i64 (lenAt xs p : Int)) ∧ Below u.heap.size u w' from fun u hu => (scTwo_any a xs.length c (p + 3) xs u (row_grow' hR hu) h8 (by omega) (by omega)).mono fun e w' h => ⟨by rw [h.1, lenAt_eq h8], h.2⟩)
  have T1 := hide (show ∀ u, Below w.heap.size w u → Calls Tryz.prog 252 #[.slice a xs.length c, .int .i64 ((p : Int) + 1)] u fun e w' => e = .returned (.int .i64 (imAt xs p).id) ∧ Below u.heap.size u w' from fun u hu => (scTwo_any a xs.length c (p + 1) xs u (row_grow' hR hu) h8 (by omega) (by omega)).mono fun e w' h => ⟨h.1, h.2⟩)
  have LE := lenAt_le h8 p
  have IMA := hide (show imAt xs p = imAt xs p from rfl)
  go_enter Tryz.func214, Tryz.ntmps214
  go_wp2_with fail
  refine (unhide T3 _ b0).mono ?_
  rintro e w1 ⟨rfl, hb1⟩
  have B1 := b0.trans (hb1.mono b0.size)
  have K1 := hide (sc_at_below (unhide KR) hb1)
  have z1 : w.heap.size < w1.heap.size := by have := hb1.size; omega
  clear T3 KR hb1 RR
  generalize w.alloc (.cells #[.int .i64 0, .bool false, .slice none 0 0] 72) = W at *
  by_cases h6 : ¬ (p + 5 + lenAt xs p ≤ xs.length)
  · have NN := hide (next_no (b := xs) (p := p) (fun h => h6 h.2.1))
    generalize lenAt xs p = sz at *
    have g6 : (xs.length : Int) - ((p : Int) + 5) < (sz : Int) := by omega
    have wr4 : IntKind.i64.wrap ((xs.length : Int) - ((p : Int) + 5)) = (xs.length : Int) - ((p : Int) + 5) := by rw [IntKind.wrap_i64]; omega
    clear hR h8 HB T1 IMA
    have y0 : w1.cell? ⟨w.heap.size, 0, none⟩ = some (.int .i64 0) := (heap_at (unhide K1) 0).1
    have y1 : w1.cell? ⟨w.heap.size, 1, none⟩ = some (.bool false) := (heap_at (unhide K1) 1).1
    have y2 : w1.cell? ⟨w.heap.size, 2, none⟩ = some (.slice none 0 0) := (heap_at (unhide K1) 2).1
    have f0 : w1.frozen? ⟨w.heap.size, 0, none⟩ = false := (heap_at (unhide K1) 0).2
    have f1 : w1.frozen? ⟨w.heap.size, 1, none⟩ = false := (heap_at (unhide K1) 1).2
    have f2 : w1.frozen? ⟨w.heap.size, 2, none⟩ = false := (heap_at (unhide K1) 2).2
    go_wp2_with fail
    refine bodyPost_ret (v := .tuple #[iv 0 false none 0 0, .int .i64 0, .bool false]) (by unfold iv; simp [results, Tryz.results214, go_sem, *] <;> rfl) rfl ?_
    exact unhide NO _ (unhide NN) (SB _ B1)
  replace h6 := Decidable.not_not.1 h6
  have XL := imAt_len h6
  have XB := hide (imAt_bytes h8 p)
  have XI := imAt_id h8 p
  have NY := hide (fun h3 h4 => next_yes (b := xs) (p := p) h5 h6 h3 h4)
  have NN3 := hide (show (imAt xs p).ok = false → nextI xs p = none from fun h3 => next_no (fun h => by rw [h3] at h; exact absurd h.2.2.1 (by decide)))
  have NN4 := hide (show ¬ (xs.drop p).take ((imAt xs p).xs.length + 9) = (imAt xs p).by → nextI xs p = none from fun h3 => next_no (fun h => h3 (by rw [XL]; exact h.2.2.2)))
  have NY4 := hide (show (imAt xs p).ok = true → (xs.drop p).take ((imAt xs p).xs.length + 9) = (imAt xs p).by → nextI xs p = some (imAt xs p) from fun h3 h4 => unhide NY h3 (by rw [XL] at h4; exact h4))
  obtain ⟨b, off, rfl, _⟩ := hR.2 0 (by omega)
  have XR := hide (show ∀ u, Below w.heap.size w u → Row u (some ⟨b, off + (p + 5), none⟩) (imAt xs p).xs.length (imAt xs p).xs from fun u hu => by
    rw [XL]
    exact sc_row_take (sc_row_drop (row_grow' hR hu) (p + 5)) (by omega))
  have XP := hide (show ∀ u, Below w.heap.size w u → Row u (some ⟨b, off + p, none⟩) (xs.length - p) (xs.drop p) from fun u hu => sc_row_drop (row_grow' hR hu) p)
  have XM := hide (show ∀ u, Below w.heap.size w u → u.cell? ⟨b, off + p, none⟩ = some (.int .u8 (xs.getD p 0)) from fun u hu => by
    obtain ⟨b', off', e, hcell⟩ := (row_grow' hR hu).2 p (by omega)
    cases e
    exact hcell)
  have XG := hide (show (imAt xs p).gone = decide (xs.getD p 0 = 2) from rfl)
  have HD := hide (show Bytes8 (xs.drop p) from by have := bytes8_drop h8 p xs.length; rwa [List.take_of_length_le (by simp)] at this)
  obtain ⟨X, hX⟩ : ∃ X, X = imAt xs p := ⟨_, rfl⟩
  rw [← hX] at T1 XL XB XI NY NN3 NN4 NY4 XR XG
  generalize lenAt xs p = sz at *
  subst XL
  clear IMA hX NY HB hR h8
  generalize hm : xs.getD p 0 = mk at *
  have hq : ∀ i : Nat, i = xs.length → i = xs.length := fun _ h => h
  generalize hnn : xs.length = n at *
  have g6 : ¬ ((n : Int) - ((p : Int) + 5) < (X.xs.length : Int)) := by omega
  have wr4 : IntKind.i64.wrap ((n : Int) - ((p : Int) + 5)) = (n : Int) - ((p : Int) + 5) := by rw [IntKind.wrap_i64]; omega
  have wr5 : IntKind.i64.wrap ((p : Int) + 1) = (p : Int) + 1 := by rw [IntKind.wrap_i64]; omega
  have wr6 : IntKind.i64.wrap ((p : Int) + 5 + (X.xs.length : Int)) = (p : Int) + 5 + (X.xs.length : Int) := by rw [IntKind.wrap_i64]; omega
  have hgx : (mk == 2) = X.gone := (unhide XG).symm
  have i0 : (0 : Int) ≤ (p : Int) := by omega
  have i1 : (p : Int) < (n : Int) := by omega
  have i2 : (0 : Int) ≤ (p : Int) + 5 := by omega
  have i3 : (p : Int) + 5 ≤ (p : Int) + 5 + (X.xs.length : Int) := by omega
  have i4 : (p : Int) + 5 + (X.xs.length : Int) ≤ (c : Int) := by omega
  have i4' : (0 : Int) ≤ (p : Int) + 5 + (X.xs.length : Int) := by omega
  have i5 : ((p : Int) + 5).toNat = p + 5 := by omega
  have i6 : ((p : Int) + 5 + (X.xs.length : Int)).toNat = p + 5 + X.xs.length := by omega
  have i7 : p + 5 + X.xs.length - (p + 5) = X.xs.length := by omega
  have i9 : max ((p : Int) + 5 + (X.xs.length : Int)) 0 = (p : Int) + 5 + (X.xs.length : Int) := by omega
  obtain ⟨so, hso, hsr⟩ : ∃ so : Nat, (if c = p + 5 then some (⟨b, off, none⟩ : Addr) else some ⟨b, off + (p + 5), none⟩) = some ⟨b, so, none⟩ ∧ ∀ u, Below w.heap.size w u → Row u (some ⟨b, so, none⟩) X.xs.length X.xs := by
    by_cases hcp : c = p + 5
    · refine ⟨off, if_pos hcp, fun u hu => ?_⟩
      have h0 : X.xs.length = 0 := by omega
      exact ⟨rfl, fun i hi => absurd hi (by omega)⟩
    · exact ⟨off + (p + 5), if_neg hcp, unhide XR⟩
  have XS := hide hsr
  clear hsr
  go_upto_region 7 with fail
  go_cut [9] (fun v wc => ∃ xb g cp, v = .pointer (some ⟨xb, 0, none⟩) ∧ Hid (ImBox w1 w1.heap.size xb g cp X wc))
  case first =>
    have SK := hide (show ∀ u, Below w1.heap.size w1 u → (fun u => Below w1.heap.size w1 u ∧ u.cell? ⟨b, off + p, none⟩ = some (.int .u8 mk)) u from fun u hu => ⟨hu, unhide XM u (B1.trans (hu.mono B1.size))⟩)
    have CL := hide (show ∀ u, Below w1.heap.size w1 u → Calls Tryz.prog 168 #[.slice (some ⟨b, so, none⟩) X.xs.length (c - (p + 5))] u fun e w' => ∃ g cap, e = .returned (.slice (some ⟨g, 0, none⟩) X.xs.length cap) ∧ Owns w' u.heap.size (.slice (some ⟨g, 0, none⟩) X.xs.length cap) X.xs ∧ Below u.heap.size u w' from fun u hu => clone_any b so X.xs.length _ X.xs u (unhide XS u (B1.trans (hu.mono B1.size))) (by omega))
    have D0 := hide (show Below w1.heap.size w1 w1.drew from (Below.refl _ _).drew)
    refine wp_region_held_drew (S := (fun u => Below w1.heap.size w1 u ∧ u.cell? ⟨b, off + p, none⟩ = some (.int .u8 mk))) (by kernel_rfl) (unhide SK _ (unhide D0)) (fun hHeld => ?_)
    refine anyH_take 0 30 (v := ?v1) rfl rfl (by kernel_rfl) (by kernel_rfl) (by kernel_rfl) (fun _ _ _ h => h) (by rfl) ?h1 hHeld ?r1
    case h1 => (intro w hSw; (try dsimp only at hSw); go_simp; try (with_reducible rfl))
    simp only [Act.put, List.setIfInBounds_toArray, List.set_cons_zero, List.set_cons_succ]
    refine anyH_take 1 31 (v := ?v2) rfl rfl (by kernel_rfl) (by kernel_rfl) (by kernel_rfl) (fun _ _ _ h => h) (by rfl) ?h2 hHeld ?r2
    case h2 => (intro w hSw; (try dsimp only at hSw); go_simp; try (with_reducible rfl))
    simp only [Act.put, List.setIfInBounds_toArray, List.set_cons_zero, List.set_cons_succ]
    refine anyH_take 2 32 (v := ?v3) rfl rfl (by kernel_rfl) (by kernel_rfl) (by kernel_rfl) (fun _ _ _ h => h) (by rfl) ?h3 hHeld ?r3
    case h3 => (intro w hSw; (try dsimp only at hSw); go_simp; try (with_reducible rfl))
    simp only [Act.put, List.setIfInBounds_toArray, List.set_cons_zero, List.set_cons_succ]
    refine anyH_take 4 34 (v := ?v4) rfl rfl (by kernel_rfl) (by kernel_rfl) (by kernel_rfl) (fun _ _ _ h => h) (by rfl) ?h4 hHeld ?r4
    case h4 => (intro w hSw; (try dsimp only at hSw); go_simp; try (with_reducible rfl))
    simp only [Act.put, List.setIfInBounds_toArray, List.set_cons_zero, List.set_cons_succ]
    refine anyH_take 5 35 (v := ?v5) rfl rfl (by kernel_rfl) (by kernel_rfl) (by kernel_rfl) (fun _ _ _ h => h) (by rfl) ?h5 hHeld ?r5
    case h5 => (intro w hSw; (try dsimp only at hSw); go_simp; try (with_reducible rfl))
    simp only [Act.put, List.setIfInBounds_toArray, List.set_cons_zero, List.set_cons_succ]
    refine anyH_take 6 36 (v := ?v6) rfl rfl (by kernel_rfl) (by kernel_rfl) (by kernel_rfl) (fun _ _ _ h => h) (by rfl) ?h6 hHeld ?r6
    case h6 => (intro w hSw; (try dsimp only at hSw); go_simp; try (with_reducible rfl))
    simp only [Act.put, List.setIfInBounds_toArray, List.set_cons_zero, List.set_cons_succ]
    refine anyH_take 7 37 (v := ?v7) rfl rfl (by kernel_rfl) (by kernel_rfl) (by kernel_rfl) (fun _ _ _ h => h) (by rfl) ?h7 hHeld ?r7
    case h7 => (intro w hSw; (try dsimp only at hSw); go_simp; try (with_reducible rfl))
    simp only [Act.put, List.setIfInBounds_toArray, List.set_cons_zero, List.set_cons_succ]
    refine anyH_take 8 38 (v := ?v8) rfl rfl (by kernel_rfl) (by kernel_rfl) (by kernel_rfl) (fun _ _ _ h => h) (by rfl) ?h8 hHeld ?r8
    case h8 => (intro w hSw; (try dsimp only at hSw); go_simp; try (with_reducible rfl))
    simp only [Act.put, List.setIfInBounds_toArray, List.set_cons_zero, List.set_cons_succ]
    refine anyH_take 9 39 (v := ?v9) rfl rfl (by kernel_rfl) (by kernel_rfl) (by kernel_rfl) (fun _ _ _ h => h) (by rfl) ?h9 hHeld ?r9
    case h9 => (intro w hSw; (try dsimp only at hSw); go_simp; try (with_reducible rfl))
    simp only [Act.put, List.setIfInBounds_toArray, List.set_cons_zero, List.set_cons_succ]
    refine anyH_take 10 40 (v := ?v10) rfl rfl (by kernel_rfl) (by kernel_rfl) (by kernel_rfl) (fun _ _ _ h => h) (by rfl) ?h10 hHeld ?r10
    case h10 => (intro w hSw; (try dsimp only at hSw); go_simp; try (with_reducible rfl))
    simp only [Act.put, List.setIfInBounds_toArray, List.set_cons_zero, List.set_cons_succ]
    refine anyH_take 11 41 (v := ?v11) rfl rfl (by kernel_rfl) (by kernel_rfl) (by kernel_rfl) (fun _ _ _ h => h) (by rfl) ?h11 hHeld ?r11
    case h11 => (intro w hSw; (try dsimp only at hSw); go_simp; try (with_reducible rfl))
    simp only [Act.put, List.setIfInBounds_toArray, List.set_cons_zero, List.set_cons_succ]
    refine anyH_take 12 42 (v := ?v12) rfl rfl (by kernel_rfl) (by kernel_rfl) (by kernel_rfl) (fun _ _ _ h => h) (by rfl) ?h12 hHeld ?r12
    case h12 => (intro w hSw; (try dsimp only at hSw); go_simp; try (with_reducible rfl))
    simp only [Act.put, List.setIfInBounds_toArray, List.set_cons_zero, List.set_cons_succ]
    refine anyH_take 13 43 (v := ?v13) rfl rfl (by kernel_rfl) (by kernel_rfl) (by kernel_rfl) (fun _ _ _ h => h) (by rfl) ?h13 hHeld ?r13
    case h13 => (intro w hSw; (try dsimp only at hSw); go_simp; try (with_reducible rfl))
    simp only [Act.put, List.setIfInBounds_toArray, List.set_cons_zero, List.set_cons_succ]
    refine anyH_take 14 44 (v := ?v14) rfl rfl (by kernel_rfl) (by kernel_rfl) (by kernel_rfl) (fun _ _ _ h => h) (by rfl) ?h14 hHeld ?r14
    case h14 => (intro w hSw; (try dsimp only at hSw); go_simp; try (with_reducible rfl))
    simp only [Act.put, List.setIfInBounds_toArray, List.set_cons_zero, List.set_cons_succ]
    refine wpAnyH_ready (rs := [3, 17]) (by kernel_rfl) (by simp) ?_
    refine AllReadyH.cons rfl (fun K hK => ?_) (AllReadyH.cons rfl (fun K hK => ?_) AllReadyH.nil)
    · go_simp
      refine (unhide T1 _ (B1.trans ((unhide D0).mono B1.size))).mono ?_
      rintro e u3 ⟨rfl, hb⟩
      have D3 := hide ((unhide D0).trans (hb.mono (unhide D0).size))
      clear hb
      refine hK.out _ _ (unhide SK _ (unhide D3)) (fun hHeld => ?_)
      clear hK K
      refine wpAnyH_ready (rs := [15, 17]) (by kernel_rfl) (by simp) ?_
      refine AllReadyH.cons rfl (fun K hK => ?_) (AllReadyH.cons rfl (fun K hK => ?_) AllReadyH.nil)
      · go_simp
        refine (unhide CL _ (unhide D3)).mono ?_
        rintro e u3_15 ⟨g, cp, rfl, ho, hb⟩
        have D3_15 := hide ((unhide D3).trans (hb.mono (unhide D3).size))
        have OX3_15 := hide (sc_down ho (unhide D3).size)
        clear hb ho
        refine hK.out _ _ (unhide SK _ (unhide D3_15)) (fun hHeld => ?_)
        clear hK K
        refine anyH_take 16 46 (v := ?v15) rfl rfl (by kernel_rfl) (by kernel_rfl) (by kernel_rfl) (fun _ _ _ h => h) (by rfl) ?h15 hHeld ?r15
        case h15 => (intro w hSw; (try dsimp only at hSw); go_simp; try (with_reducible rfl))
        simp only [Act.put, List.setIfInBounds_toArray, List.set_cons_zero, List.set_cons_succ]
        refine wpAnyH_ready (rs := [17]) (by kernel_rfl) (by simp) ?_
        refine AllReadyH.cons rfl (fun K hK => ?_) AllReadyH.nil
        have hb : Below u3_15.heap.size u3_15 (u3_15.alloc (.cells #[.int .i64 0, .bool false, .slice none 0 0] 72)) := (Below.refl _ _).alloc (Nat.le_refl _) _
        have D3_15_17 := hide ((unhide D3_15).trans (hb.mono (unhide D3_15).size))
        have KX3_15_17 := hide (heap_alloc_new u3_15 (.cells #[.int .i64 0, .bool false, .slice none 0 0] 72))
        have OX3_15_17 := hide (owns_below (unhide OX3_15) hb)
        have NX3_15_17 : g ≠ u3_15.heap.size := fun e => by have h1 := (sc_g (unhide OX3_15)).2; omega
        clear hb
        go_simp
        refine hK.out _ _ (unhide SK _ (unhide D3_15_17)) (fun hHeld => ?_)
        clear hK K
        refine wpAnyH_ready (rs := [18]) (by kernel_rfl) (by simp) ?_
        refine AllReadyH.cons rfl (fun K hK => ?_) AllReadyH.nil
        have y0 : (u3_15.alloc (.cells #[.int .i64 0, .bool false, .slice none 0 0] 72)).cell? ⟨u3_15.heap.size, 0, none⟩ = some (.int .i64 0) := (heap_at (unhide KX3_15_17) 0).1
        have y1 : (u3_15.alloc (.cells #[.int .i64 0, .bool false, .slice none 0 0] 72)).cell? ⟨u3_15.heap.size, 1, none⟩ = some (.bool false) := (heap_at (unhide KX3_15_17) 1).1
        have y2 : (u3_15.alloc (.cells #[.int .i64 0, .bool false, .slice none 0 0] 72)).cell? ⟨u3_15.heap.size, 2, none⟩ = some (.slice none 0 0) := (heap_at (unhide KX3_15_17) 2).1
        have f0 : (u3_15.alloc (.cells #[.int .i64 0, .bool false, .slice none 0 0] 72)).frozen? ⟨u3_15.heap.size, 0, none⟩ = false := (heap_at (unhide KX3_15_17) 0).2
        have f1 : (u3_15.alloc (.cells #[.int .i64 0, .bool false, .slice none 0 0] 72)).frozen? ⟨u3_15.heap.size, 1, none⟩ = false := (heap_at (unhide KX3_15_17) 1).2
        have f2 : (u3_15.alloc (.cells #[.int .i64 0, .bool false, .slice none 0 0] 72)).frozen? ⟨u3_15.heap.size, 2, none⟩ = false := (heap_at (unhide KX3_15_17) 2).2
        have BX := hide (ImBox.of_new (X := X) (unhide OX3_15) (unhide D3_15))
        go_simp
        refine hK.out _ _ (unhide SK _ (unhide BX).bel) (fun hHeld => ?_)
        clear hK K
        refine wpAnyH_done (by kernel_rfl) ?_ _
        go_wp2_with fail
        go_meet
        case rel => exact ⟨_, _, _, rfl, unhide BX⟩
      · have hb : Below u3.heap.size u3 (u3.alloc (.cells #[.int .i64 0, .bool false, .slice none 0 0] 72)) := (Below.refl _ _).alloc (Nat.le_refl _) _
        have D3_17 := hide ((unhide D3).trans (hb.mono (unhide D3).size))
        have KX3_17 := hide (heap_alloc_new u3 (.cells #[.int .i64 0, .bool false, .slice none 0 0] 72))
        clear hb
        go_simp
        refine hK.out _ _ (unhide SK _ (unhide D3_17)) (fun hHeld => ?_)
        clear hK K
        refine wpAnyH_ready (rs := [15]) (by kernel_rfl) (by simp) ?_
        refine AllReadyH.cons rfl (fun K hK => ?_) AllReadyH.nil
        go_simp
        refine (unhide CL _ (unhide D3_17)).mono ?_
        rintro e u3_17_15 ⟨g, cp, rfl, ho, hb⟩
        have D3_17_15 := hide ((unhide D3_17).trans (hb.mono (unhide D3_17).size))
        have OX3_17_15 := hide (sc_down ho (unhide D3_17).size)
        have KX3_17_15 := hide (sc_at_below (unhide KX3_17) hb)
        have NX3_17_15 : g ≠ u3.heap.size := fun e => by have h1 := (sc_g ho).1; have h2 : u3.heap.size < (u3.alloc (.cells #[.int .i64 0, .bool false, .slice none 0 0] 72)).heap.size := (Array.getElem?_eq_some_iff.1 (unhide KX3_17)).1; omega
        clear hb ho
        refine hK.out _ _ (unhide SK _ (unhide D3_17_15)) (fun hHeld => ?_)
        clear hK K
        refine anyH_take 16 46 (v := ?v16) rfl rfl (by kernel_rfl) (by kernel_rfl) (by kernel_rfl) (fun _ _ _ h => h) (by rfl) ?h16 hHeld ?r16
        case h16 => (intro w hSw; (try dsimp only at hSw); go_simp; try (with_reducible rfl))
        simp only [Act.put, List.setIfInBounds_toArray, List.set_cons_zero, List.set_cons_succ]
        refine wpAnyH_ready (rs := [18]) (by kernel_rfl) (by simp) ?_
        refine AllReadyH.cons rfl (fun K hK => ?_) AllReadyH.nil
        have y0 : u3_17_15.cell? ⟨u3.heap.size, 0, none⟩ = some (.int .i64 0) := (heap_at (unhide KX3_17_15) 0).1
        have y1 : u3_17_15.cell? ⟨u3.heap.size, 1, none⟩ = some (.bool false) := (heap_at (unhide KX3_17_15) 1).1
        have y2 : u3_17_15.cell? ⟨u3.heap.size, 2, none⟩ = some (.slice none 0 0) := (heap_at (unhide KX3_17_15) 2).1
        have f0 : u3_17_15.frozen? ⟨u3.heap.size, 0, none⟩ = false := (heap_at (unhide KX3_17_15) 0).2
        have f1 : u3_17_15.frozen? ⟨u3.heap.size, 1, none⟩ = false := (heap_at (unhide KX3_17_15) 1).2
        have f2 : u3_17_15.frozen? ⟨u3.heap.size, 2, none⟩ = false := (heap_at (unhide KX3_17_15) 2).2
        have BX := hide (ImBox.of_store (X := X) (unhide KX3_17_15) (unhide OX3_17_15) NX3_17_15 ((unhide D3).size) (unhide D3_17_15))
        go_simp
        refine hK.out _ _ (unhide SK _ (unhide BX).bel) (fun hHeld => ?_)
        clear hK K
        refine wpAnyH_done (by kernel_rfl) ?_ _
        go_wp2_with fail
        go_meet
        case rel => exact ⟨_, _, _, rfl, unhide BX⟩
    · have hb : Below w1.drew.heap.size w1.drew (w1.drew.alloc (.cells #[.int .i64 0, .bool false, .slice none 0 0] 72)) := (Below.refl _ _).alloc (Nat.le_refl _) _
      have D17 := hide ((unhide D0).trans (hb.mono (unhide D0).size))
      have KX17 := hide (heap_alloc_new w1.drew (.cells #[.int .i64 0, .bool false, .slice none 0 0] 72))
      clear hb
      go_simp
      refine hK.out _ _ (unhide SK _ (unhide D17)) (fun hHeld => ?_)
      clear hK K
      refine wpAnyH_ready (rs := [3]) (by kernel_rfl) (by simp) ?_
      refine AllReadyH.cons rfl (fun K hK => ?_) AllReadyH.nil
      go_simp
      refine (unhide T1 _ (B1.trans ((unhide D17).mono B1.size))).mono ?_
      rintro e u17_3 ⟨rfl, hb⟩
      have D17_3 := hide ((unhide D17).trans (hb.mono (unhide D17).size))
      have KX17_3 := hide (sc_at_below (unhide KX17) hb)
      clear hb
      refine hK.out _ _ (unhide SK _ (unhide D17_3)) (fun hHeld => ?_)
      clear hK K
      refine wpAnyH_ready (rs := [15]) (by kernel_rfl) (by simp) ?_
      refine AllReadyH.cons rfl (fun K hK => ?_) AllReadyH.nil
      go_simp
      refine (unhide CL _ (unhide D17_3)).mono ?_
      rintro e u17_3_15 ⟨g, cp, rfl, ho, hb⟩
      have D17_3_15 := hide ((unhide D17_3).trans (hb.mono (unhide D17_3).size))
      have OX17_3_15 := hide (sc_down ho (unhide D17_3).size)
      have KX17_3_15 := hide (sc_at_below (unhide KX17_3) hb)
      have NX17_3_15 : g ≠ w1.heap.size := fun e => by have h1 := (sc_g ho).1; have h2 : w1.heap.size < u17_3.heap.size := (Array.getElem?_eq_some_iff.1 (unhide KX17_3)).1; omega
      clear hb ho
      refine hK.out _ _ (unhide SK _ (unhide D17_3_15)) (fun hHeld => ?_)
      clear hK K
      refine anyH_take 16 46 (v := ?v17) rfl rfl (by kernel_rfl) (by kernel_rfl) (by kernel_rfl) (fun _ _ _ h => h) (by rfl) ?h17 hHeld ?r17
      case h17 => (intro w hSw; (try dsimp only at hSw); go_simp; try (with_reducible rfl))
      simp only [Act.put, List.setIfInBounds_toArray, List.set_cons_zero, List.set_cons_succ]
      refine wpAnyH_ready (rs := [18]) (by kernel_rfl) (by simp) ?_
      refine AllReadyH.cons rfl (fun K hK => ?_) AllReadyH.nil
      have y0 : u17_3_15.cell? ⟨w1.heap.size, 0, none⟩ = some (.int .i64 0) := (heap_at (unhide KX17_3_15) 0).1
      have y1 : u17_3_15.cell? ⟨w1.heap.size, 1, none⟩ = some (.bool false) := (heap_at (unhide KX17_3_15) 1).1
      have y2 : u17_3_15.cell? ⟨w1.heap.size, 2, none⟩ = some (.slice none 0 0) := (heap_at (unhide KX17_3_15) 2).1
      have f0 : u17_3_15.frozen? ⟨w1.heap.size, 0, none⟩ = false := (heap_at (unhide KX17_3_15) 0).2
      have f1 : u17_3_15.frozen? ⟨w1.heap.size, 1, none⟩ = false := (heap_at (unhide KX17_3_15) 1).2
      have f2 : u17_3_15.frozen? ⟨w1.heap.size, 2, none⟩ = false := (heap_at (unhide KX17_3_15) 2).2
      have BX := hide (ImBox.of_store (X := X) (unhide KX17_3_15) (unhide OX17_3_15) NX17_3_15 (Nat.le_refl _) (unhide D17_3_15))
      go_simp
      refine hK.out _ _ (unhide SK _ (unhide BX).bel) (fun hHeld => ?_)
      clear hK K
      refine wpAnyH_done (by kernel_rfl) ?_ _
      go_wp2_with fail
      go_meet
      case rel => exact ⟨_, _, _, rfl, unhide BX⟩
  case rest =>
    obtain ⟨xb, g, cp, rfl, hbx⟩ := hcut
    have B2 := hide (B1.trans ((unhide hbx).bel.mono B1.size))
    have K2 := hide ((((unhide hbx).bel.block w.heap.size z1)).trans (unhide K1))
    have BX := hide (unhide hbx).box
    have OX := hide (unhide hbx).own
    have NEX : xb ≠ w.heap.size := by have := (unhide hbx).ge; omega
    clear hbx K1 T1 B1 XM
    have x0 : wc.cell? ⟨xb, 0, none⟩ = some (.int .i64 X.id) := (heap_at (unhide BX) 0).1
    have x1 : wc.cell? ⟨xb, 1, none⟩ = some (.bool X.gone) := (heap_at (unhide BX) 1).1
    have x2 : wc.cell? ⟨xb, 2, none⟩ = some (.slice (some ⟨g, 0, none⟩) X.xs.length cp) := (heap_at (unhide BX) 2).1
    go_wp2_with fail
    refine (imageOK_any X.id X.gone (some ⟨g, 0, none⟩) X.xs.length cp wc (by unfold maxLen; omega)).mono ?_
    rintro e w2 ⟨rfl, hb2⟩
    have B3 := (unhide B2).trans (hb2.mono (unhide B2).size)
    have K3 := hide (sc_at_below (unhide K2) hb2)
    have BX3 := hide (sc_at_below (unhide BX) hb2)
    have OX3 := hide (owns_below (unhide OX) hb2)
    clear hb2 K2 BX OX B2 x0 x1 x2
    have EOK := hide (show imOK X.id X.gone X.xs.length = X.ok from rfl)
    cases hok : imOK X.id X.gone X.xs.length with
    | false =>
      have NN := hide (unhide NN3 (by rw [← unhide EOK]; exact hok))
      clear NN3 NN4 NY4 XP XR XB XG HD OX3 BX3 hok EOK
      have y0 : w2.cell? ⟨w.heap.size, 0, none⟩ = some (.int .i64 0) := (heap_at (unhide K3) 0).1
      have y1 : w2.cell? ⟨w.heap.size, 1, none⟩ = some (.bool false) := (heap_at (unhide K3) 1).1
      have y2 : w2.cell? ⟨w.heap.size, 2, none⟩ = some (.slice none 0 0) := (heap_at (unhide K3) 2).1
      have f0 : w2.frozen? ⟨w.heap.size, 0, none⟩ = false := (heap_at (unhide K3) 0).2
      have f1 : w2.frozen? ⟨w.heap.size, 1, none⟩ = false := (heap_at (unhide K3) 1).2
      have f2 : w2.frozen? ⟨w.heap.size, 2, none⟩ = false := (heap_at (unhide K3) 2).2
      go_wp2_with fail
      refine bodyPost_ret (v := .tuple #[iv 0 false none 0 0, .int .i64 0, .bool false]) (by unfold iv; simp [results, Tryz.results214, go_sem, *] <;> rfl) rfl ?_
      exact unhide NO _ (unhide NN) (SB _ B3)
    | true =>
      have OK3 : X.ok = true := by rw [← unhide EOK]; exact hok
      have CPL : X.xs.length ≤ cp := by
        rcases (unhide OX3).2 with ⟨e, _⟩ | ⟨g', cap, cur, e, _, _, h1, _⟩
        · cases e
        · injection e with _ _ e
          subst e
          exact h1
      have RX : Row w2 (some ⟨g, 0, none⟩) X.xs.length X.xs := by
        obtain ⟨g', cap', e, hr⟩ := owns_row (unhide OX3) (by simp)
        injection e with e1 e2 e3
        injection e1 with e1
        injection e1 with e1
        subst e1
        exact hr
      have IB := hide (imageBytes_any X.id X.gone g 0 cp X.xs w2 CPL hok RX (unhide XB))
      clear CPL RX
      have x0 : w2.cell? ⟨xb, 0, none⟩ = some (.int .i64 X.id) := (heap_at (unhide BX3) 0).1
      have x1 : w2.cell? ⟨xb, 1, none⟩ = some (.bool X.gone) := (heap_at (unhide BX3) 1).1
      have x2 : w2.cell? ⟨xb, 2, none⟩ = some (.slice (some ⟨g, 0, none⟩) X.xs.length cp) := (heap_at (unhide BX3) 2).1
      go_wp2_with fail
      refine (unhide IB).mono ?_
      rintro e w3 ⟨v, rfl, ho3, hv3, hb3⟩
      have B4 := B3.trans (hb3.mono B3.size)
      have K4 := hide (sc_at_below (unhide K3) hb3)
      have BX4 := hide (sc_at_below (unhide BX3) hb3)
      have OX4 := hide (owns_below (unhide OX3) hb3)
      obtain ⟨g3, c3, rfl, hr3⟩ := owns_row ho3 hv3
      rw [imgL_length] at hr3 ⊢
      have HP := hide (hasPrefix_any (some ⟨b, off + p, none⟩) (some ⟨g3, 0, none⟩) (n - p) (c - p) (X.xs.length + 9) c3 (xs.drop p) X.by w3 (unhide XP w3 B4) hr3 (unhide HD) (imgL_bytes (unhide XB) (by omega) (by omega) (by omega)) (by omega) (by unfold maxLen; omega) (fun h => by cases h))
      clear hb3 ho3 hv3 hr3 IB K3 BX3 OX3 B3 x0 x1 x2 hok EOK
      have wr7 : IntKind.i64.wrap ((p : Int) + ((X.xs.length : Int) + 9)) = (p : Int) + 9 + (X.xs.length : Int) := by rw [IntKind.wrap_i64]; omega
      have i8 : (p : Int) ≤ (n : Int) := by omega
      have i10 : c - p ≠ 0 := by omega
      have i11 : ¬ c = p := by omega
      go_wp2_with fail
      refine (unhide HP).mono ?_
      rintro e w4 ⟨rfl, hw4⟩
      subst w4
      clear HP
      by_cases hmt : (xs.drop p).take (X.xs.length + 9) = X.by
      · have NS := hide (unhide NY4 OK3 hmt)
        have hd : decide ((xs.drop p).take (X.xs.length + 9) = X.by) = true := decide_eq_true hmt
        clear NN3 NN4 NY4 XP XR XB XG HD hmt
        have x0 : w3.cell? ⟨xb, 0, none⟩ = some (.int .i64 X.id) := (heap_at (unhide BX4) 0).1
        have x1 : w3.cell? ⟨xb, 1, none⟩ = some (.bool X.gone) := (heap_at (unhide BX4) 1).1
        have x2 : w3.cell? ⟨xb, 2, none⟩ = some (.slice (some ⟨g, 0, none⟩) X.xs.length cp) := (heap_at (unhide BX4) 2).1
        have y0 : w3.cell? ⟨w.heap.size, 0, none⟩ = some (.int .i64 0) := (heap_at (unhide K4) 0).1
        have y1 : w3.cell? ⟨w.heap.size, 1, none⟩ = some (.bool false) := (heap_at (unhide K4) 1).1
        have y2 : w3.cell? ⟨w.heap.size, 2, none⟩ = some (.slice none 0 0) := (heap_at (unhide K4) 2).1
        have f0 : w3.frozen? ⟨w.heap.size, 0, none⟩ = false := (heap_at (unhide K4) 0).2
        have f1 : w3.frozen? ⟨w.heap.size, 1, none⟩ = false := (heap_at (unhide K4) 1).2
        have f2 : w3.frozen? ⟨w.heap.size, 2, none⟩ = false := (heap_at (unhide K4) 2).2
        have FB := hide (show Below w.heap.size w (((w3.setCell ⟨w.heap.size, 0, none⟩ (.int .i64 X.id)).setCell ⟨w.heap.size, 1, none⟩ (.bool X.gone)).setCell ⟨w.heap.size, 2, none⟩ (.slice (some ⟨g, 0, none⟩) X.xs.length cp)) from ((B4.setCell (p := ⟨w.heap.size, 0, none⟩) q3 _).setCell (p := ⟨w.heap.size, 1, none⟩) q3 _).setCell (p := ⟨w.heap.size, 2, none⟩) q3 _)
        have FO := hide (show Owns (((w3.setCell ⟨w.heap.size, 0, none⟩ (.int .i64 X.id)).setCell ⟨w.heap.size, 1, none⟩ (.bool X.gone)).setCell ⟨w.heap.size, 2, none⟩ (.slice (some ⟨g, 0, none⟩) X.xs.length cp)) w.heap.size (.slice (some ⟨g, 0, none⟩) X.xs.length cp) X.xs from by
          have hne : g ≠ w.heap.size := by have := (sc_g (unhide OX4)).1; omega
          exact sc_owns_set (sc_owns_set (sc_owns_set (sc_down (unhide OX4) (by omega)) hne _) hne _) hne _)
        clear OX4 BX4 K4
        go_wp2_with fail
        refine bodyPost_ret (v := .tuple #[iv X.id X.gone (some ⟨g, 0, none⟩) X.xs.length cp, .int .i64 ((p + 9 + X.xs.length : Nat) : Int), .bool true]) (by unfold iv; simp [results, Tryz.results214, go_sem, *] <;> rfl) rfl ?_
        exact .inr ⟨X, g, cp, unhide NS, rfl, unhide FO, unhide FB⟩
      · have NN := hide (unhide NN4 hmt)
        have hd : decide ((xs.drop p).take (X.xs.length + 9) = X.by) = false := decide_eq_false hmt
        clear NN3 NN4 NY4 XP XR XB XG HD OX4 BX4 hmt
        have y0 : w3.cell? ⟨w.heap.size, 0, none⟩ = some (.int .i64 0) := (heap_at (unhide K4) 0).1
        have y1 : w3.cell? ⟨w.heap.size, 1, none⟩ = some (.bool false) := (heap_at (unhide K4) 1).1
        have y2 : w3.cell? ⟨w.heap.size, 2, none⟩ = some (.slice none 0 0) := (heap_at (unhide K4) 2).1
        have f0 : w3.frozen? ⟨w.heap.size, 0, none⟩ = false := (heap_at (unhide K4) 0).2
        have f1 : w3.frozen? ⟨w.heap.size, 1, none⟩ = false := (heap_at (unhide K4) 1).2
        have f2 : w3.frozen? ⟨w.heap.size, 2, none⟩ = false := (heap_at (unhide K4) 2).2
        go_wp2_with fail
        refine bodyPost_ret (v := .tuple #[iv 0 false none 0 0, .int .i64 0, .bool false]) (by unfold iv; simp [results, Tryz.results214, go_sem, *] <;> rfl) rfl ?_
        exact unhide NO _ (unhide NN) (SB _ B4)
end Go.Proofs.YtcflepnckjappaaGreat
