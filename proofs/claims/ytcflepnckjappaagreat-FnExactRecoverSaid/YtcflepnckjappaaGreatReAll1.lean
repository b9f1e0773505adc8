/-
  VrW, VoA, VaG, VaL, VaS, KyC, VeL, PageB, PageC, PageD, PageE, PageF, PageG, PageH, PageI, PageJ, PageK, PageM, XaC, TxL, VeD, VsA in one.
-/
import Derived.Test.YtcflepnckjappaaGreatVrQ
import Derived.Test.YtcflepnckjappaaGreatVvA
import Derived.Test.YtcflepnckjappaaGreatVrL
import Derived.Test.YtcflepnckjappaaGreatWrT
import Derived.Test.YtcflepnckjappaaGreatRowB
import Derived.Test.YtcflepnckjappaaGreatPageA
import Derived.Laws.CopyRow
import Derived.Laws.Externs
import Derived.Laws.IdiomCopy
import Derived.Lib.Overlaps
import Derived.Lib.AppendZerosOnto
import Derived.Deep.RegionLaw
import Derived.Lib.SliceRun
import Derived.Deep.RegionWith
import Derived.Deep.DeepCutAuto
import Derived.Sort.KeysCollected
import Derived.Sort.Walk0
import Derived.Test.YtcflepnckjappaaGreatTakes
namespace Go.Proofs.YtcflepnckjappaaGreat
open Go.RowKit

set_option maxHeartbeats 1000000 in
theorem writesOther_any (bx : Nat) (d : VerD) (t : Int) (w : World) (h : w.cell? ⟨bx, 0, none⟩ = some (.int .i64 t)) :
    Calls Tryz.prog 282 #[vv d, .pointer (some ⟨bx, 0, none⟩)] w fun e w' => e = .returned (.bool (!decide (d.t = t))) ∧ Below w.heap.size w w' := by
  have B0 := hide (show Below w.heap.size w (w.alloc (.cells #[.string d.k, .int .i64 d.t, .string d.v, .bool d.g] 51)) from (Below.refl _ _).alloc (Nat.le_refl _) _)
  have h' := (unhide B0).cell (p := ⟨bx, 0, none⟩) (cell_lt h) |>.trans h
  obtain ⟨k, s, v, g⟩ := d
  unfold vv
  simp only at B0 h'
  go_enter Tryz.func282, Tryz.ntmps282
  go_wp2_with fail
  first | (go_quiet (fail); go_wp2_with fail) | skip
  go_ret
  exact ⟨ret_bool (by by_cases e : s = t <;> simp [bne, e]), by first | exact unhide B0 | exact bel_drewN (unhide B0) _ | exact (unhide B0).drew⟩
theorem find_step {ds : List VerD} {t : Int} {k : Nat} (hk : k < ds.length) (hp : ∀ i (h : i < ds.length), i < k → ds[i].t = t) (ht : ds[k].t = t) : ∀ i (h : i < ds.length), i < k + 1 → ds[i].t = t := fun i h hi => by
  by_cases e : i < k
  · exact hp i h e
  · obtain rfl : i = k := by omega
    exact ht
set_option maxRecDepth 100000 in
set_option maxHeartbeats 4000000 in
theorem indexOther_any (bx : Nat) (a : Option Addr) (n c : Nat) (ds : List VerD) (t : Int) (w : World) (hn : n ≤ 1048576) (hr : VRow w a n ds) (h : w.cell? ⟨bx, 0, none⟩ = some (.int .i64 t)) :
    Calls Tryz.prog 324 #[.slice a n c, .func (.func 282) #[] #[.pointer (some ⟨bx, 0, none⟩)]] w fun e w' => ∃ r : Int, e = .returned (.int .i64 r) ∧ decide (0 ≤ r) = !oneT ds t ∧ Below w.heap.size w w' := by
  have L := hide hr.1
  have R := hide hr
  have HB := hide h
  clear hr h
  go_enter Tryz.func324, Tryz.ntmps324
  go_wp2_with fail
  go_loopw [8] (fun i wr => ∃ k : Nat, k ≤ n ∧ i = .int .i64 k ∧ Hid (∀ i (h : i < ds.length), i < k → ds[i].t = t) ∧ Below w.heap.size w wr) (fun i _ => n - (intOf i).toNat)
  case atStart => exact ⟨0, by omega, rfl, (fun i _ hi => absurd hi (Nat.not_lt_zero _)), Below.refl _ _⟩
  case round =>
    obtain ⟨k, hk, rfl, hok, hb⟩ := hrel
    by_cases hlt : k < n
    · have hk2 : k < ds.length := by rw [unhide L]; exact hlt
      obtain ⟨b, off, rfl, d0, d1, d2, d3⟩ := ((unhide R).below hb).2 k hk2
      have hsz := hb.size
      have hbx : wr.cell? ⟨bx, 0, none⟩ = some (.int .i64 t) := (hb.cell (p := ⟨bx, 0, none⟩) (cell_lt (unhide HB))).trans (unhide HB)
      have C := hide (fun (u : World) (hu : u.cell? ⟨bx, 0, none⟩ = some (.int .i64 t)) => writesOther_any bx ds[k] t u hu)
      have F := hide (fun (h : ds[k].t ≠ t) => oneT_false hk2 h)
      have G := hide (find_step hk2 (unhide hok))
      generalize ds[k] = pd at *
      obtain ⟨pk, pt, pv, pg⟩ := pd
      unfold vv at C
      simp only at d0 d1 d2 d3 C F G
      clear hok
      by_cases ht : pt = t
      · subst ht
        have E : (!decide (pt = pt)) = false := by simp
        rw [E] at C
        clear F E
        go_wp2_with fail
        refine (unhide C wr hbx).mono ?_
        rintro e w1 ⟨rfl, hb1⟩
        all_goals
          have bA : Below w.heap.size w w1 := by first | exact hb.trans (hb1.mono hsz) | exact hb.drew.trans (hb1.mono hsz) | exact (bel_drewN hb _).trans (hb1.mono hsz)
          clear hb hb1 d0 d1 d2 d3 hbx C
          go_wp2_with fail
          go_roundw
          case rel => exact ⟨k + 1, by omega, by go_num, (by first | exact unhide G rfl | exact unhide G trivial), bA⟩
          case measure => simp [intOf]; omega
      · have E : (!decide (pt = t)) = true := by simp [ht]
        rw [E] at C
        have Z := hide (unhide F ht)
        clear F E G
        go_wp2_with fail
        refine (unhide C wr hbx).mono ?_
        rintro e w1 ⟨rfl, hb1⟩
        all_goals
          have bA : Below w.heap.size w w1 := by first | exact hb.trans (hb1.mono hsz) | exact hb.drew.trans (hb1.mono hsz) | exact (bel_drewN hb _).trans (hb1.mono hsz)
          clear hb hb1 d0 d1 d2 d3 hbx C
          go_wp2_with fail
          go_ret
          exact ⟨k, rfl, by rw [unhide Z]; simp, bA⟩
    · obtain rfl : k = n := by omega
      have Z := hide (show oneT ds t = true from oneT_true fun i hi => unhide hok i hi (by have := unhide L; omega))
      go_wp2_with fail
      go_ret
      exact ⟨-1, rfl, by rw [unhide Z]; simp, hb⟩
set_option maxHeartbeats 1000000 in
theorem containsOther_any (bx : Nat) (a : Option Addr) (n c : Nat) (ds : List VerD) (t : Int) (w : World) (hn : n ≤ 1048576) (hr : VRow w a n ds) (h : w.cell? ⟨bx, 0, none⟩ = some (.int .i64 t)) :
    Calls Tryz.prog 283 #[.slice a n c, .func (.func 282) #[] #[.pointer (some ⟨bx, 0, none⟩)]] w fun e w' => e = .returned (.bool (!oneT ds t)) ∧ Below w.heap.size w w' := by
  have C := hide (indexOther_any bx a n c ds t w hn hr h)
  clear hr h
  go_enter Tryz.func283, Tryz.ntmps283
  go_wp2_with fail
  refine (unhide C).mono ?_
  rintro e w1 ⟨r, rfl, hr, hb⟩
  have R := hide hr
  clear hr C
  go_wp2_with fail
  go_ret
  exact ⟨ret_bool (by rw [← unhide R]), hb⟩
set_option maxRecDepth 100000 in
set_option maxHeartbeats 4000000 in
theorem writesOK_any (a : Option Addr) (n c : Nat) (ds : List VerD) (t : Int) (w : World) (hn : n ≤ 1048576) (hr : VRow w a n ds) :
    Calls Tryz.prog 216 #[.slice a n c, .int .i64 t] w fun e w' => e = .returned (.bool (wrV ds t)) ∧ Below w.heap.size w w' := by
  have hmf : ∀ (fn : Fn) (first cap : Array Value) (w : World), (Instr.makeFunc fn first cap).run Tryz.prog w = .ok (.func fn first cap) w := fun _ _ _ _ => rfl
  have b0 : Below w.heap.size w (w.alloc (.cells #[.int .i64 t] 3)) := (Below.refl _ _).alloc (Nat.le_refl _) _
  have hs0 := b0.size
  have c0 : (w.alloc (.cells #[.int .i64 t] 3)).cell? ⟨w.heap.size, 0, none⟩ = some (.int .i64 t) := by simp
  have RR := hide (hr.below b0)
  have L := hide hr.1
  clear hr
  by_cases h8 : n ≤ 8
  · have E := hide (show wrV ds t = (okVs ds && oneT ds t) by unfold wrV; rw [decide_eq_true (by rw [unhide L]; exact h8)]; simp)
    have h8' : ¬ (8 : Int) < (n : Int) := by omega
    go_enter Tryz.func216, Tryz.ntmps216
    go_wp2_with fail
    generalize w.alloc (.cells #[.int .i64 t] 3) = W at *
    refine (listOK_any a n c ds W hn (unhide RR)).mono ?_
    rintro e w1 ⟨rfl, hb1⟩
    have hbb := b0.trans (hb1.mono hs0)
    have c1 : w1.cell? ⟨w.heap.size, 0, none⟩ = some (.int .i64 t) := (hb1.cell (p := ⟨w.heap.size, 0, none⟩) (cell_lt c0)).trans c0
    have C := hide (containsOther_any w.heap.size a n c ds t w1 hn ((unhide RR).below hb1) c1)
    have hsz := hbb.size
    clear RR hb1 c0 b0 hs0 c1
    generalize okVs ds = A at *
    generalize oneT ds t = O at *
    cases A
    · have E := hide (show wrV ds t = false by rw [unhide E]; rfl)
      go_wp2_with fail
      go_ret
      exact ⟨ret_bool (unhide E).symm, hbb⟩
    · have E := hide (show O = wrV ds t by rw [unhide E]; rfl)
      go_wp2_with fail
      refine (unhide C).mono ?_
      rintro e w2 ⟨rfl, hb2⟩
      have hbc := hbb.trans (hb2.mono hsz)
      go_wp2_with fail
      go_ret
      exact ⟨ret_bool (by rw [← unhide E]), hbc⟩
  · have E := hide (show wrV ds t = false by unfold wrV; rw [decide_eq_false (by rw [unhide L]; exact h8)]; rfl)
    have h8' : (8 : Int) < (n : Int) := by omega
    go_enter Tryz.func216, Tryz.ntmps216
    go_wp2_with fail
    go_ret
    exact ⟨ret_bool (unhide E).symm, b0⟩
end Go.Proofs.YtcflepnckjappaaGreat

namespace Go.Proofs.YtcflepnckjappaaGreat
open Go.RowKit

/-- None is as late as a time. -/
def lateK (ds : List VerD) (t : Int) : Bool := ds.all fun d => decide (d.t < t)
def fenK (next : Int) (f : FenD) : Bool := decide (f.f.size ≤ 40) && (decide (f.u.size ≤ 41) && (decide (1 ≤ f.t) && decide (f.t < next)))
def sesK (next : Int) (s : SesD) : Bool := if s.o = true then decide (1 ≤ s.t) && (decide (s.t < next) && wrV s.ws s.t) else decide (s.t = 0) && decide (s.ws.length = 0)
def topK (d : VsD) : Bool := decide (1 ≤ d.next ∧ d.next ≤ 1000 ∧ d.list.length ≤ 4096 ∧ d.fen.length ≤ 4096 ∧ d.ses.length = 4)
/-- Versions are right. -/
def okVsD (d : VsD) : Bool := topK d && (okVs d.list && (lateK d.list d.next && (d.fen.all (fenK d.next) && d.ses.all (sesK d.next))))
end Go.Proofs.YtcflepnckjappaaGreat

namespace Go.Proofs.YtcflepnckjappaaGreat
open Go.RowKit

/-- The versions of a key. -/
def grp (ds : List VerD) (k : ByteArray) : List VerD := ds.filter fun d => decide (d.k = k)
theorem grp_snoc_same (ds : List VerD) (d : VerD) : grp (ds ++ [d]) d.k = grp ds d.k ++ [d] := by simp [grp]
theorem grp_snoc_other (ds : List VerD) (d : VerD) {k : ByteArray} (h : k ≠ d.k) : grp (ds ++ [d]) k = grp ds k := by simp [grp, h.symm]
theorem grp_len (ds : List VerD) (k : ByteArray) : (grp ds k).length ≤ ds.length := List.length_filter_le _ _
end Go.Proofs.YtcflepnckjappaaGreat

namespace Go.Proofs.YtcflepnckjappaaGreat
open Go.RowKit

def lastAt (L : List VerD) (t : Int) : Option VerD := (L.filter fun d => decide (d.t ≤ t)).getLast?
/-- The version that a key has at a time. -/
def verAt (ds : List VerD) (k : ByteArray) (t : Int) : Option VerD := match lastAt (grp ds k) t with
  | some d => if d.g = true then none else some d
  | none => none
/-- How many are not later. -/
def cnt (L : List VerD) (t : Int) : Nat := (L.takeWhile fun d => decide (d.t ≤ t)).length
theorem ltV_trans {a b c : VerD} (h1 : ltV a b = true) (h2 : ltV b c = true) : ltV a c = true := by
  unfold ltV at *
  simp only [Bool.or_eq_true, Bool.and_eq_true, decide_eq_true_eq] at *
  rcases h1 with h1 | ⟨h1, h1'⟩
  · rcases h2 with h2 | ⟨h2, _⟩
    · exact .inl (ltK_trans h1 h2)
    · exact .inl (h2 ▸ h1)
  · rcases h2 with h2 | ⟨h2, h2'⟩
    · exact .inl (h1 ▸ h2)
    · exact .inr ⟨h1.trans h2, by omega⟩
theorem okVs_next {ds : List VerD} (h : okVs ds = true) {i : Nat} (hi : i + 1 < ds.length) : ltV (ds[i]'(by omega)) ds[i + 1] = true := by
  have := okVs_at h hi
  rw [okAtV_succ hi, Bool.and_eq_true] at this
  exact this.2
theorem okVs_rise {ds : List VerD} (h : okVs ds = true) {i : Nat} : ∀ (m : Nat) (hj : i + m + 1 < ds.length), ltV (ds[i]'(by omega)) ds[i + m + 1] = true
  | 0, hj => okVs_next h hj
  | m + 1, hj => ltV_trans (okVs_rise h m (by omega)) (okVs_next h (i := i + m + 1) hj)
theorem okVs_pair {ds : List VerD} (h : okVs ds = true) : ds.Pairwise fun a b => ltV a b = true := by
  rw [List.pairwise_iff_getElem]
  intro i j hi hj hij
  obtain ⟨m, rfl⟩ : ∃ m, j = i + m + 1 := ⟨j - i - 1, by omega⟩
  exact okVs_rise h m hj
end Go.Proofs.YtcflepnckjappaaGreat

namespace Go.Proofs.YtcflepnckjappaaGreat
open Go.RowKit Go.Maps

end Go.Proofs.YtcflepnckjappaaGreat

namespace Go.Proofs.YtcflepnckjappaaGreat
open Go.RowKit

structure KvD where
  k : ByteArray
  v : ByteArray
/-- The record as it lies in memory. -/
def kv (d : KvD) : Value := .agg #[.string d.k, .string d.v]
/-- A slice of records as it reads. -/
def KRow (w : World) (a : Option Addr) (n : Nat) (ds : List KvD) : Prop :=
  ds.length = n ∧ ∀ i (hi : i < ds.length), ∃ b off, a = some ⟨b, off, none⟩ ∧ w.cell? ⟨b, off + i * 2, none⟩ = some (.string ds[i].k) ∧ w.cell? ⟨b, off + i * 2 + 1, none⟩ = some (.string ds[i].v)
theorem KRow.below {w w' : World} {a : Option Addr} {n : Nat} {ds : List KvD} (h : KRow w a n ds) (hb : Below w.heap.size w w') : KRow w' a n ds := by
  refine ⟨h.1, fun i hi => ?_⟩
  obtain ⟨b, off, e, c0, c1⟩ := h.2 i hi
  have hbl : b < w.heap.size := cell_lt c0
  exact ⟨b, off, e, (hb.cell (p := ⟨b, off + i * 2, none⟩) hbl).trans c0, (hb.cell (p := ⟨b, off + i * 2 + 1, none⟩) hbl).trans c1⟩
end Go.Proofs.YtcflepnckjappaaGreat

namespace Go.Proofs.YtcflepnckjappaaGreat
open Go.RowKit

def kvOf : Option VerD → List KvD
  | some x => [⟨x.k, x.v⟩]
  | none => []
/-- The entry of the key whose first version lies there. -/
def entOne (ds : List VerD) (t : Int) (i : Nat) (hi : i < ds.length) : List KvD := if 0 < i ∧ (ds[i - 1]'(by omega)).k = ds[i].k then [] else kvOf (verAt ds ds[i].k t)
def entsTo (ds : List VerD) (t : Int) : Nat → List KvD
  | 0 => []
  | j + 1 => entsTo ds t j ++ (if hi : j < ds.length then entOne ds t j hi else [])
/-- The entries at a time. -/
def entsAt (ds : List VerD) (t : Int) : List KvD := entsTo ds t ds.length
end Go.Proofs.YtcflepnckjappaaGreat

namespace Go.Proofs.YtcflepnckjappaaGreat
open Go.RowKit

/-- A slice of entries as it reads. -/
def ERow (w : World) (a : Option Addr) (n : Nat) (es : List EntD) : Prop :=
  es.length = n ∧ ∀ i (hi : i < es.length), ∃ b off, a = some ⟨b, off, none⟩ ∧ w.cell? ⟨b, off + i * 2, none⟩ = some (.string es[i].k) ∧ w.cell? ⟨b, off + i * 2 + 1, none⟩ = some (.string es[i].v)
theorem ERow.below {w w' : World} {a : Option Addr} {n : Nat} {es : List EntD} (h : ERow w a n es) (hb : Below w.heap.size w w') : ERow w' a n es := by
  refine ⟨h.1, fun i hi => ?_⟩
  obtain ⟨b, off, e, c0, c1⟩ := h.2 i hi
  have hbl : b < w.heap.size := cell_lt c0
  exact ⟨b, off, e, (hb.cell (p := ⟨b, off + i * 2, none⟩) hbl).trans c0, (hb.cell (p := ⟨b, off + i * 2 + 1, none⟩) hbl).trans c1⟩
/-- The cells of entries. -/
def ecs : List EntD → List Value
  | [] => []
  | e :: r => .string e.k :: .string e.v :: ecs r
theorem ecs_at0 : ∀ (es : List EntD) (i : Nat) (hi : i < es.length), (ecs es)[i * 2]? = some (.string es[i].k)
  | [], _, hi => by simp at hi
  | e :: r, 0, _ => rfl
  | e :: r, i + 1, hi => by
    rw [show (i + 1) * 2 = i * 2 + 1 + 1 by omega]
    simp only [ecs, List.getElem?_cons_succ, List.getElem_cons_succ]
    exact ecs_at0 r i (by simpa using hi)
theorem ecs_at1 : ∀ (es : List EntD) (i : Nat) (hi : i < es.length), (ecs es)[i * 2 + 1]? = some (.string es[i].v)
  | [], _, hi => by simp at hi
  | e :: r, 0, _ => rfl
  | e :: r, i + 1, hi => by
    rw [show (i + 1) * 2 + 1 = i * 2 + 1 + 1 + 1 by omega]
    simp only [ecs, List.getElem?_cons_succ, List.getElem_cons_succ]
    exact ecs_at1 r i (by simpa using hi)
/-- A slice of entries that the call owns from block B on. -/
abbrev EOwns (w : World) (B : Nat) (v : Value) (es : List EntD) : Prop := w.ownsRow B 143 2 v es.length (ecs es)
theorem erow_of_owns {w : World} {B n c : Nat} {a : Option Addr} {es : List EntD} (h : EOwns w B (.slice a n c) es) : ERow w a n es := by
  have h' := h
  obtain ⟨hl, h⟩ := h
  rcases h with ⟨e, hn⟩ | ⟨g, cap, cur, e, hb, hh, hc, hm, hs, ht⟩
  · injection e with e1 e2 e3
    subst e1 e2 e3
    exact ⟨hn, fun i hi => absurd hi (by omega)⟩
  · injection e with e1 e2 e3
    subst e1 e2 e3
    refine ⟨rfl, fun i hi => ⟨g, 0, rfl, ?_, ?_⟩⟩
    · rw [Nat.zero_add, h'.cellAt (i * 2) (by omega), ecs_at0 es i hi]
    · rw [Nat.zero_add, h'.cellAt (i * 2 + 1) (by omega), ecs_at1 es i hi]
/-- What a page is behind changes, in memory: her bounds and the value of her entries' slice. -/
def SetAt (w : World) (sb : Nat) (lo hi : ByteArray) (r : Int) (v : Value) : Prop := w.heap[sb]? = some (.cells #[.string lo, .string hi, .int .i64 r, v] 327 (0, 0))
theorem SetAt.c0 {w : World} {sb : Nat} {lo hi : ByteArray} {r : Int} {v : Value} (h : SetAt w sb lo hi r v) : w.cell? ⟨sb, 0, none⟩ = some (.string lo) := by unfold SetAt at h; simp [World.cell?, h]
theorem SetAt.c1 {w : World} {sb : Nat} {lo hi : ByteArray} {r : Int} {v : Value} (h : SetAt w sb lo hi r v) : w.cell? ⟨sb, 1, none⟩ = some (.string hi) := by unfold SetAt at h; simp [World.cell?, h]
theorem SetAt.c2 {w : World} {sb : Nat} {lo hi : ByteArray} {r : Int} {v : Value} (h : SetAt w sb lo hi r v) : w.cell? ⟨sb, 2, none⟩ = some (.int .i64 r) := by unfold SetAt at h; simp [World.cell?, h]
theorem SetAt.c3 {w : World} {sb : Nat} {lo hi : ByteArray} {r : Int} {v : Value} (h : SetAt w sb lo hi r v) : w.cell? ⟨sb, 3, none⟩ = some v := by unfold SetAt at h; simp [World.cell?, h]
theorem SetAt.fz {w : World} {sb : Nat} {lo hi : ByteArray} {r : Int} {v : Value} (h : SetAt w sb lo hi r v) (j : Nat) : w.frozen? ⟨sb, j, none⟩ = false := by unfold SetAt at h; simp [World.frozen?, h]
theorem SetAt.lt {w : World} {sb : Nat} {lo hi : ByteArray} {r : Int} {v : Value} (h : SetAt w sb lo hi r v) : sb < w.heap.size := (Array.getElem?_eq_some_iff.1 h).1
theorem SetAt.kept {w w' : World} {sb : Nat} {lo hi : ByteArray} {r : Int} {v : Value} (h : SetAt w sb lo hi r v) (hk : w'.heap[sb]? = w.heap[sb]?) : SetAt w' sb lo hi r v := hk.trans h
theorem SetAt.below {w w' : World} {B sb : Nat} {lo hi : ByteArray} {r : Int} {v : Value} (h : SetAt w sb lo hi r v) (hb : Below B w w') (hs : sb < B) : SetAt w' sb lo hi r v := h.kept (hb.block sb hs)

end Go.Proofs.YtcflepnckjappaaGreat

namespace Go.Proofs.YtcflepnckjappaaGreat
open Go.RowKit

theorem tup_ib {a b : Int} {c d : Bool} (h : a = b) (g : c = d) : Ending.returned (.tuple #[.int .i64 a, .bool c]) = .returned (.tuple #[.int .i64 b, .bool d]) := by rw [h, g]
end Go.Proofs.YtcflepnckjappaaGreat

namespace Go.Proofs.YtcflepnckjappaaGreat
open Go.RowKit

/-- A copy whose run is known, as one step of a region that draws. -/
theorem stepCopyE {P : Program} {ops : Array Oper} {o : Oper} {a : Act} {w : World} {K : Act → World → Prop} {Q : Exit → Act → World → Prop} {E : Prop}
    (hg : o.guard = none) (s x : Operand) (t : TypeId) (hop : o.op = Op.call { callee := Callee.builtin Builtin.copy, args := #[s, x], argTypes := #[t, t] })
    (vs vx v' : Value) (w' : World) (hs : a.eval s = vs) (hx : a.eval x = vx) (hrun : (Builtin.copy_ #[t, t] o.type #[vs, vx]).run P w = .ok v' w') (hK : K (a.put o.dst v') w') :
    if Region.wanted o (yielded ops a.tmps) = true then Oper.wp P o a w K Q else E := by
  have hw : Region.wanted o (yielded ops a.tmps) = true := by simp [Region.wanted, hg]
  rw [if_pos hw]
  unfold Oper.wp
  simp [execOp, hop, resolve, invoke, builtin, hs, hx, hrun, Result.andThen]
  exact hK
/-- A copy whose run is known, elsewhere. -/
theorem wpCopyE {P : Program} {ops : Array Oper} {rest : List Oper} {o : Oper} {a : Act} {w : World} {Q : Exit → Act → World → Prop}
    (hg : o.guard = none) (s x : Operand) (t : TypeId) (hop : o.op = Op.call { callee := Callee.builtin Builtin.copy, args := #[s, x], argTypes := #[t, t] })
    (vs vx v' : Value) (w' : World) (hs : a.eval s = vs) (hx : a.eval x = vx) (hrun : (Builtin.copy_ #[t, t] o.type #[vs, vx]).run P w = .ok v' w') (h : wpList P ops Q rest (a.put o.dst v') w') :
    wpList P ops Q (o :: rest) a w :=
  wpList_plain hg fun _ hK => by
    unfold Oper.wp
    simp [execOp, hop, resolve, invoke, builtin, hs, hx, hrun, Result.andThen]
    exact hK _ _ h
theorem grown_setRow (w : World) (g : Nat) (cs : Array Value) : w.grownBy (w.setRow g cs) (some g) :=
  ⟨rfl, rfl, rfl, by simp, fun k _ hk => setRow_other w g k cs (fun e => hk (by rw [e]))⟩
theorem grown_trans {w w1 w2 : World} {r : Option Nat} (h : w.grownBy w1 r) (k : w1.grownBy w2 r) : w.grownBy w2 r :=
  ⟨k.os.trans h.os, k.tape.trans h.tape, k.output.trans h.output, Nat.le_trans h.size k.size, fun i hi hne => (k.block i (Nat.lt_of_lt_of_le hi h.size) hne).trans (h.block i hi hne)⟩
theorem grown_new {w w1 : World} {r : Option Nat} (h : Below w.heap.size w w1) : w.grownBy w1 r := ⟨h.os, h.tape, h.output, h.size, fun k hk _ => h.block k hk⟩
end Go.Proofs.YtcflepnckjappaaGreat

namespace Go.Proofs.YtcflepnckjappaaGreat
open Go.RowKit

end Go.Proofs.YtcflepnckjappaaGreat

namespace Go.Proofs.YtcflepnckjappaaGreat
open Go.RowKit

end Go.Proofs.YtcflepnckjappaaGreat

namespace Go.Proofs.YtcflepnckjappaaGreat
open Go.RowKit

/-- What a page is behind changes, with entries of the call's own. -/
structure Sett (w : World) (sb : Nat) (lo hi : ByteArray) (r : Int) (a : Option Addr) (n c : Nat) (es : List EntD) : Prop where
  at_ : SetAt w sb lo hi r (.slice a n c)
  own : EOwns w (sb + 1) (.slice a n c) es
  rise : Rise es
theorem Sett.len {w : World} {sb : Nat} {lo hi : ByteArray} {r : Int} {a : Option Addr} {n c : Nat} {es : List EntD} (h : Sett w sb lo hi r a n c es) : n = es.length := (erow_of_owns h.own).1.symm
theorem Sett.step {w w' : World} {sb : Nat} {lo hi : ByteArray} {r : Int} {a : Option Addr} {n c : Nat} {es : List EntD} (h : Sett w sb lo hi r a n c es) (hb : Below w.heap.size w w') : Sett w' sb lo hi r a n c es :=
  ⟨h.at_.below hb h.at_.lt, World.ownsRow.kept (row := none) h.own ⟨hb.os, hb.tape, hb.output, hb.size, fun i hi _ => hb.block i hi⟩ (by cases hv : (Value.slice a n c).ownBlock <;> simp), h.rise⟩
end Go.Proofs.YtcflepnckjappaaGreat

namespace Go.Proofs.YtcflepnckjappaaGreat
open Go.RowKit

end Go.Proofs.YtcflepnckjappaaGreat

namespace Go.Proofs.YtcflepnckjappaaGreat
open Go.RowKit

/-- A slice of changes as it reads. -/
def DRow (w : World) (a : Option Addr) (n : Nat) (ds : List DelD) : Prop :=
  ds.length = n ∧ ∀ i (hi : i < ds.length), ∃ b off, a = some ⟨b, off, none⟩ ∧ w.cell? ⟨b, off + i * 4, none⟩ = some (.int .i64 ds[i].kind) ∧ w.cell? ⟨b, off + i * 4 + 1, none⟩ = some (.string ds[i].k) ∧
    w.cell? ⟨b, off + i * 4 + 2, none⟩ = some (.string ds[i].v) ∧ w.cell? ⟨b, off + i * 4 + 3, none⟩ = some (.int .i64 ds[i].to)
theorem DRow.below {w w' : World} {a : Option Addr} {n : Nat} {ds : List DelD} (h : DRow w a n ds) (hb : Below w.heap.size w w') : DRow w' a n ds := by
  refine ⟨h.1, fun i hi => ?_⟩
  obtain ⟨b, off, e, c0, c1, c2, c3⟩ := h.2 i hi
  have hbl : b < w.heap.size := cell_lt c0
  exact ⟨b, off, e, (hb.cell (p := ⟨b, off + i * 4, none⟩) hbl).trans c0, (hb.cell (p := ⟨b, off + i * 4 + 1, none⟩) hbl).trans c1, (hb.cell (p := ⟨b, off + i * 4 + 2, none⟩) hbl).trans c2, (hb.cell (p := ⟨b, off + i * 4 + 3, none⟩) hbl).trans c3⟩
end Go.Proofs.YtcflepnckjappaaGreat

namespace Go.Proofs.YtcflepnckjappaaGreat
open Go.RowKit

end Go.Proofs.YtcflepnckjappaaGreat

namespace Go.Proofs.YtcflepnckjappaaGreat
open Go.RowKit

end Go.Proofs.YtcflepnckjappaaGreat

namespace Go.Proofs.YtcflepnckjappaaGreat
open Go.RowKit

/-- Entries with one changed. -/
def putE (es : List EntD) (e : EntD) (gone : Bool) : List EntD := stepE es ⟨if gone then 2 else 1, e.k, e.v, 0⟩
theorem ownsRow_base2 {w : World} {B C e s n : Nat} {v : Value} {vs : List Value} (h : w.ownsRow B e s v n vs) (hC : C ≤ B) : w.ownsRow C e s v n vs := by
  obtain ⟨hl, h⟩ := h
  refine ⟨hl, ?_⟩
  rcases h with h | ⟨g, cap, cur, e, hb, r⟩
  · exact .inl h
  · exact .inr ⟨g, cap, cur, e, Nat.le_trans hC hb, r⟩
end Go.Proofs.YtcflepnckjappaaGreat

namespace Go.Proofs.YtcflepnckjappaaGreat
open Go.RowKit

structure TxD where
  kind : Int
  ses : Int
  key : ByteArray
  «to» : ByteArray
  val : ByteArray
/-- The record as it lies in memory. -/
def xv (d : TxD) : Value := .agg #[.int .i64 d.kind, .int .i64 d.ses, .string d.key, .string d.to, .string d.val]
/-- A slice of records as it reads. -/
def XRow (w : World) (a : Option Addr) (n : Nat) (ds : List TxD) : Prop :=
  ds.length = n ∧ ∀ i (hi : i < ds.length), ∃ b off, a = some ⟨b, off, none⟩ ∧ w.cell? ⟨b, off + i * 5, none⟩ = some (.int .i64 ds[i].kind) ∧ w.cell? ⟨b, off + i * 5 + 1, none⟩ = some (.int .i64 ds[i].ses) ∧ w.cell? ⟨b, off + i * 5 + 2, none⟩ = some (.string ds[i].key) ∧ w.cell? ⟨b, off + i * 5 + 3, none⟩ = some (.string ds[i].to) ∧ w.cell? ⟨b, off + i * 5 + 4, none⟩ = some (.string ds[i].val)
theorem XRow.below {w w' : World} {a : Option Addr} {n : Nat} {ds : List TxD} (h : XRow w a n ds) (hb : Below w.heap.size w w') : XRow w' a n ds := by
  refine ⟨h.1, fun i hi => ?_⟩
  obtain ⟨b, off, e, c0, c1, c2, c3, c4⟩ := h.2 i hi
  have hbl : b < w.heap.size := cell_lt c0
  exact ⟨b, off, e, (hb.cell (p := ⟨b, off + i * 5, none⟩) hbl).trans c0, (hb.cell (p := ⟨b, off + i * 5 + 1, none⟩) hbl).trans c1, (hb.cell (p := ⟨b, off + i * 5 + 2, none⟩) hbl).trans c2, (hb.cell (p := ⟨b, off + i * 5 + 3, none⟩) hbl).trans c3, (hb.cell (p := ⟨b, off + i * 5 + 4, none⟩) hbl).trans c4⟩
end Go.Proofs.YtcflepnckjappaaGreat

namespace Go.Proofs.YtcflepnckjappaaGreat
open Go.RowKit

/-- A reply. -/
structure RepD where
  code : Int
  time : Int
  val : ByteArray
  list : List EntD
/-- The first place whose version is not ahead of one. -/
def posV : List VerD → VerD → Nat
  | [], _ => 0
  | d :: r, x => if ltV d x then posV r x + 1 else 0
theorem posV_le : ∀ (ds : List VerD) (x : VerD), posV ds x ≤ ds.length
  | [], _ => Nat.le_refl _
  | d :: r, x => by
    unfold posV
    have := posV_le r x
    split <;> simp <;> omega
theorem posV_lt : ∀ (ds : List VerD) (x : VerD) (i : Nat) (hi : i < ds.length), i < posV ds x → ltV ds[i] x = true
  | [], _, _, hi, _ => by simp at hi
  | d :: r, x, i, hi, h => by
    unfold posV at h
    split at h
    · rename_i hl
      cases i with
      | zero => exact hl
      | succ i => exact posV_lt r x i (by simpa using hi) (by omega)
    · omega
theorem posV_at : ∀ (ds : List VerD) (x : VerD) (h : posV ds x < ds.length), ltV ds[posV ds x] x = false
  | [], _, h => by simp [posV] at h
  | d :: r, x, h => by
    by_cases hl : ltV d x = true
    · have e : posV (d :: r) x = posV r x + 1 := by rw [posV, if_pos hl]
      have h' : posV r x < r.length := by rw [e] at h; simpa using h
      have := posV_at r x h'
      simp only [e, List.getElem_cons_succ]
      exact this
    · have e : posV (d :: r) x = 0 := by rw [posV, if_neg hl]
      simp only [e, List.getElem_cons_zero]
      simpa using hl
theorem posV_step {ds : List VerD} {x : VerD} {i : Nat} (hi : i < ds.length) (h : i ≤ posV ds x) (hl : ltV ds[i] x = true) : i + 1 ≤ posV ds x := by
  rcases Nat.lt_or_ge i (posV ds x) with h1 | h1
  · omega
  · obtain rfl : i = posV ds x := by omega
    rw [posV_at ds x hi] at hl
    cases hl
theorem posV_end {ds : List VerD} {x : VerD} {i : Nat} (hi : i < ds.length) (h : i ≤ posV ds x) (hl : ltV ds[i] x = false) : i = posV ds x := by
  rcases Nat.lt_or_ge i (posV ds x) with h1 | h1
  · rw [posV_lt ds x i hi h1] at hl
    cases hl
  · omega
def sameV (a b : VerD) : Bool := decide (a.k = b.k) && decide (a.t = b.t)
/-- One of the same key and time stands there. -/
def hitV (ds : List VerD) (x : VerD) : Bool := match ds[posV ds x]? with
  | some d => sameV d x
  | none => false
/-- A version put in its place, for one of the same key and time. -/
def insV (ds : List VerD) (x : VerD) : List VerD := ds.take (posV ds x) ++ x :: ds.drop (posV ds x + (if hitV ds x = true then 1 else 0))
theorem insV_len (ds : List VerD) (x : VerD) : (insV ds x).length ≤ ds.length + 1 := by
  unfold insV
  have := posV_le ds x
  simp only [List.length_append, List.length_take, List.length_cons, List.length_drop]
  omega
def kvE (d : KvD) : EntD := ⟨d.k, d.v⟩
/-- What a session sees. -/
def seenV (d : VsD) (s : SesD) : List EntD := s.ws.foldl (fun es x => putE es ⟨x.k, x.v⟩ x.g) ((entsAt d.list s.t).map kvE)
def getR (es : List EntD) (k : ByteArray) (t : Int) : RepD := es.foldl (fun r e => if e.k = k then ⟨0, t, e.v, []⟩ else r) ⟨5, t, ⟨#[]⟩, []⟩
/-- A write comes too late. -/
def conV (d : VsD) (x : VerD) : Bool := d.list.any (fun y => decide (y.k = x.k) && decide (x.t < y.t)) || d.fen.any (fun f => decide (x.t < f.t) && inK f.f f.u x.k)
def repV (c t : Int) : RepD := ⟨c, t, ⟨#[]⟩, []⟩
def clS : SesD := ⟨false, 0, []⟩
def fenV (d : VsD) (f : FenD) (r : RepD) : VsD × RepD := if d.fen.length = 4096 then (d, repV 7 r.time) else (⟨d.next, d.list, d.fen ++ [f], d.ses⟩, r)
/-- The sizes of an act's texts. -/
def fitA (a : TxD) : Bool := if a.kind = 2 ∨ a.kind = 4 ∨ a.kind = 5 then keyK a.key && valK a.val else if a.kind = 3 then decide (a.key.size ≤ 40) && decide (a.to.size ≤ 40) else true
def wrA (a : TxD) (t : Int) : VerD := if a.kind = 5 then ⟨a.key, t, ⟨#[]⟩, true⟩ else ⟨a.key, t, a.val, false⟩
def nulK (k : ByteArray) : ByteArray := k ++ ⟨#[0]⟩
/-- An act of an open session, of right sizes. -/
def inV (d : VsD) (a : TxD) (i : Nat) (s : SesD) : VsD × RepD :=
  if a.kind = 2 then fenV d ⟨a.key, nulK a.key, s.t⟩ (getR (seenV d s) a.key s.t)
  else if a.kind = 3 then fenV d ⟨a.key, a.to, s.t⟩ ⟨0, s.t, ⟨#[]⟩, (seenV d s).filter (fun e => inK a.key a.to e.k)⟩
  else if a.kind = 4 ∨ a.kind = 5 then
    if 8 < (insV s.ws (wrA a s.t)).length then (d, repV 7 s.t) else (⟨d.next, d.list, d.fen, d.ses.set i ⟨s.o, s.t, insV s.ws (wrA a s.t)⟩⟩, repV 0 s.t)
  else if a.kind = 6 then
    if s.ws.any (conV d) = true then (⟨d.next, d.list, d.fen, d.ses.set i clS⟩, repV 9 s.t) else (⟨d.next, s.ws.foldl insV d.list, d.fen, d.ses.set i clS⟩, repV 0 s.t)
  else (⟨d.next, d.list, d.fen, d.ses.set i clS⟩, repV 0 s.t)
/-- An act of a session. -/
def sesV (d : VsD) (a : TxD) (i : Nat) (s : SesD) : VsD × RepD :=
  if a.kind = 1 then
    if s.o = true then (d, repV 8 0) else if d.next = 1000 then (d, repV 7 0) else (⟨d.next + 1, d.list, d.fen, d.ses.set i ⟨true, d.next, []⟩⟩, repV 0 d.next)
  else if s.o = false then (d, repV 10 0)
  else if fitA a = false then (d, repV 11 s.t)
  else inV d a i s
def stepV (d : VsD) (a : TxD) : VsD × RepD :=
  if ¬ (1 ≤ a.kind ∧ a.kind ≤ 7) then (d, repV 3 0)
  else if ¬ (0 ≤ a.ses ∧ a.ses ≤ 3) then (d, repV 4 0)
  else sesV d a a.ses.toNat (d.ses.getD a.ses.toNat clS)
def newV : VsD := ⟨1, [], [], List.replicate 4 clS⟩
end Go.Proofs.YtcflepnckjappaaGreat

namespace Go.Proofs.YtcflepnckjappaaGreat
open Go.RowKit Go.Maps

/-- The keys of the first so many, each once. -/
def dkTo (ds : List VerD) : Nat → List ByteArray
  | 0 => []
  | j + 1 => dkTo ds j ++ (if hi : j < ds.length then (if 0 < j ∧ (ds[j - 1]'(by omega)).k = ds[j].k then [] else [ds[j].k]) else [])
def dkeys (ds : List VerD) : List ByteArray := dkTo ds ds.length
theorem dk_again {ds : List VerD} {j : Nat} (hj : j < ds.length) (h : 0 < j ∧ (ds[j - 1]'(by omega)).k = ds[j].k) : dkTo ds (j + 1) = dkTo ds j := by
  simp only [dkTo, dif_pos hj, if_pos h, List.append_nil]
theorem dk_new {ds : List VerD} {j : Nat} (hj : j < ds.length) (h : ¬ (0 < j ∧ (ds[j - 1]'(by omega)).k = ds[j].k)) : dkTo ds (j + 1) = dkTo ds j ++ [ds[j].k] := by
  simp only [dkTo, dif_pos hj, if_neg h]
theorem dk_mem (ds : List VerD) (x : ByteArray) : ∀ j, j ≤ ds.length → (x ∈ dkTo ds j ↔ ∃ i, ∃ h : i < ds.length, i < j ∧ ds[i].k = x)
  | 0, _ => by simp [dkTo]
  | j + 1, hj => by
    have hj2 : j < ds.length := hj
    have ih := dk_mem ds x j (by omega)
    by_cases h : 0 < j ∧ (ds[j - 1]'(by omega)).k = ds[j].k
    · rw [dk_again hj2 h, ih]
      constructor
      · rintro ⟨i, hi, h1, h2⟩
        exact ⟨i, hi, by omega, h2⟩
      · rintro ⟨i, hi, h1, h2⟩
        by_cases e : i < j
        · exact ⟨i, hi, e, h2⟩
        · obtain rfl : i = j := by omega
          exact ⟨i - 1, by omega, by omega, h.2.trans h2⟩
    · rw [dk_new hj2 h, List.mem_append, ih, List.mem_singleton]
      constructor
      · rintro (⟨i, hi, h1, h2⟩ | h2)
        · exact ⟨i, hi, by omega, h2⟩
        · exact ⟨j, hj2, by omega, h2.symm⟩
      · rintro ⟨i, hi, h1, h2⟩
        by_cases e : i < j
        · exact .inl ⟨i, hi, e, h2⟩
        · obtain rfl : i = j := by omega
          exact .inr h2.symm
theorem okVs_lt2 {ds : List VerD} (h : okVs ds = true) {i j : Nat} (hj : j < ds.length) (hij : i < j) : ltV (ds[i]'(by omega)) ds[j] = true := List.pairwise_iff_getElem.1 (okVs_pair h) i j _ hj hij
theorem ltV_or {a b : VerD} (h : ltV a b = true) : ltK a.k b.k = true ∨ a.k = b.k := by
  unfold ltV at h
  simp only [Bool.or_eq_true, Bool.and_eq_true, decide_eq_true_eq] at h
  rcases h with h | h
  · exact .inl h
  · exact .inr h.1
theorem dk_rise {ds : List VerD} (ok : okVs ds = true) : ∀ j, j ≤ ds.length → (dkTo ds j).Pairwise fun a b => ltK a b = true
  | 0, _ => List.Pairwise.nil
  | j + 1, hj => by
    have hj2 : j < ds.length := hj
    have ih := dk_rise ok j (by omega)
    by_cases h : 0 < j ∧ (ds[j - 1]'(by omega)).k = ds[j].k
    · rw [dk_again hj2 h]
      exact ih
    · rw [dk_new hj2 h, List.pairwise_append]
      refine ⟨ih, List.pairwise_singleton _ _, fun a ha b hb => ?_⟩
      obtain rfl : b = ds[j].k := by simpa using hb
      obtain ⟨i, hi, hij, rfl⟩ := (dk_mem ds a j (by omega)).1 ha
      rcases ltV_or (okVs_lt2 ok hj2 hij) with e | e
      · exact e
      · exfalso
        have hp : ¬ (ds[j - 1]'(by omega)).k = ds[j].k := fun e => h ⟨by omega, e⟩
        by_cases e1 : i = j - 1
        · subst e1
          exact hp e
        · have h2 := ltV_or (okVs_lt2 ok (i := j - 1) hj2 (by omega))
          have h1 := ltV_or (okVs_lt2 ok (i := i) (j := j - 1) (by omega) (by omega))
          rcases h2 with h2 | h2
          · rcases h1 with h1 | h1
            · have := ltK_trans h1 h2
              rw [e, ltK_irr] at this
              exact absurd this (by decide)
            · rw [← h1, e, ltK_irr] at h2
              exact absurd h2 (by decide)
          · exact hp h2
theorem ltK_le {a b : ByteArray} (h : ltK a b = true) : a.data.toList < b.data.toList := by
  unfold ltK at h
  rw [ByteArray.toList_eq, ByteArray.toList_eq, bytesLess_eq] at h
  exact of_decide_eq_true h
/-- The keys as lists of bytes. -/
def dkB (ds : List VerD) : List (List UInt8) := (dkeys ds).map fun k => k.data.toList
theorem dkB_lt {ds : List VerD} (ok : okVs ds = true) : (dkB ds).Pairwise fun a b => a < b := List.pairwise_map.2 ((dk_rise ok _ (Nat.le_refl _)).imp fun h => ltK_le h)
theorem dkB_nodup {ds : List VerD} (ok : okVs ds = true) : (dkB ds).Nodup := (dkB_lt ok).imp fun {a b} h e => by subst e; exact List.lt_irrefl _ h
theorem dkB_sort {ds : List VerD} (ok : okVs ds = true) {ss : List (List UInt8)} (h : ss.Perm (dkB ds)) : ss.mergeSort (fun x y => decide (x ≤ y)) = dkB ds := by
  rw [mergeSort_of_perm h]
  refine List.mergeSort_of_pairwise ((dkB_lt ok).imp fun h => ?_)
  exact decide_eq_true (List.le_of_lt h)
theorem dkB_mem {ds : List VerD} (x : List UInt8) : x ∈ dkB ds ↔ ∃ i, ∃ h : i < ds.length, ds[i].k.data.toList = x := by
  unfold dkB dkeys
  rw [List.mem_map]
  constructor
  · rintro ⟨k, hk, rfl⟩
    obtain ⟨i, hi, _, rfl⟩ := (dk_mem ds k _ (Nat.le_refl _)).1 hk
    exact ⟨i, hi, rfl⟩
  · rintro ⟨i, hi, rfl⟩
    exact ⟨_, (dk_mem ds _ _ (Nat.le_refl _)).2 ⟨i, hi, hi, rfl⟩, rfl⟩
theorem dkTo_len (ds : List VerD) : ∀ j, (dkTo ds j).length ≤ j
  | 0 => by simp [dkTo]
  | j + 1 => by
    have := dkTo_len ds j
    simp only [dkTo, List.length_append]
    split
    · split <;> simp <;> omega
    · simp; omega
theorem grp_ne {ds : List VerD} {k : ByteArray} : grp ds k ≠ [] ↔ ∃ i, ∃ h : i < ds.length, ds[i].k = k := by
  constructor
  · intro h
    obtain ⟨d, hd⟩ := List.exists_mem_of_ne_nil _ h
    obtain ⟨h1, h2⟩ := List.mem_filter.1 hd
    obtain ⟨i, hi, rfl⟩ := List.getElem_of_mem h1
    exact ⟨i, hi, of_decide_eq_true h2⟩
  · rintro ⟨i, hi, rfl⟩ e
    have : ds[i] ∈ grp ds ds[i].k := List.mem_filter.2 ⟨List.getElem_mem hi, decide_eq_true rfl⟩
    rw [e] at this
    exact absurd this (List.not_mem_nil)
end Go.Proofs.YtcflepnckjappaaGreat

namespace Go.Proofs.YtcflepnckjappaaGreat
open Go.RowKit

theorem vs_l01In (n a b : Int) (w : World) : Calls Tryz.prog 129 #[.int .i64 n, .int .i64 a, .int .i64 b] w fun e w' => e = .returned (.bool (decide (a ≤ n) && decide (n ≤ b))) ∧ w' = w := by
  by_cases h : a ≤ n
  · have E := hide (show decide (n ≤ b) = (decide (a ≤ n) && decide (n ≤ b)) by rw [decide_eq_true h]; rfl)
    go_enter Tryz.func129, Tryz.ntmps129
    go_wp2_with fail
    go_ret
    exact ⟨ret_bool (unhide E), rfl⟩
  · have E := hide (show false = (decide (a ≤ n) && decide (n ≤ b)) by rw [decide_eq_false h]; rfl)
    go_enter Tryz.func129, Tryz.ntmps129
    go_wp2_with fail
    go_ret
    exact ⟨ret_bool (unhide E), rfl⟩
theorem vs_l04Key (k : ByteArray) (w : World) : Calls Tryz.prog 272 #[.string k] w fun e w' => e = .returned (.bool (keyK k)) ∧ w' = w := by
  by_cases h : 0 < k.size
  · have E := hide (show decide ((k.size : Int) ≤ 40) = keyK k by unfold keyK; rw [decide_eq_decide]; omega)
    go_enter Tryz.func272, Tryz.ntmps272
    go_wp2_with fail
    go_ret
    exact ⟨ret_bool (unhide E), rfl⟩
  · have E := hide (show false = keyK k by unfold keyK; rw [decide_eq_false]; omega)
    go_enter Tryz.func272, Tryz.ntmps272
    go_wp2_with fail
    go_ret
    exact ⟨ret_bool (unhide E), rfl⟩
theorem vs_ne {a b : ByteArray} (h : ¬ a = b) : (a.toList == b.toList) = false := by
  cases hq : (a.toList == b.toList) with
  | false => rfl
  | true =>
    refine absurd ?_ h
    have e : a.toList = b.toList := by simpa using hq
    rw [ByteArray.toList_eq, ByteArray.toList_eq] at e
    cases a
    cases b
    simp_all
set_option maxHeartbeats 2000000 in
theorem l06Right_any (d : VerD) (w : World) : Calls Tryz.prog 346 #[vv d] w fun e w' => e = .returned (.bool (verK d)) ∧ Below w.heap.size w w' := by
  obtain ⟨k, t, v, g⟩ := d
  unfold vv
  have B0 := hide (show Below w.heap.size w (w.alloc (.cells #[.string k, .int .i64 t, .string v, .bool g] 51)) from (Below.refl _ _).alloc (Nat.le_refl _) _)
  have E := hide (show ∀ a c : Bool, keyK k = a → idK t = c → (a && decide (v.size ≤ 100) && c && (!g || v.toList.isEmpty)) = verK ⟨k, t, v, g⟩ from fun a c ha hc => by subst ha hc; rfl)
  have S1 := hide (vs_l04Key k)
  have S3 := hide (show ∀ w, Calls Tryz.prog 129 #[.int .i64 t, .int .i64 0, .int .i64 1000] w fun e w' => e = .returned (.bool (idK t)) ∧ w' = w from fun w => by
    have := vs_l01In t 0 1000 w
    rw [show (decide (0 ≤ t) && decide (t ≤ 1000)) = idK t by unfold idK; rw [Bool.decide_and]] at this
    exact this)
  generalize hka : keyK k = ka at *
  generalize hia : idK t = ia at *
  replace E := hide (unhide E ka ia rfl rfl)
  generalize verK ⟨k, t, v, g⟩ = R at *
  clear hka hia
  cases ka
  · have F := hide (show false = R by rw [← unhide E]; simp)
    clear E
    go_enter Tryz.func346, Tryz.ntmps346
    go_wp2_with (go_at_call 272; refine (unhide S1 _).mono ?_; rintro e w1 ⟨rfl, rfl⟩)
    go_ret
    exact ⟨ret_bool (unhide F), unhide B0⟩
  · by_cases hv : v.size ≤ 100
    · have hv' : (v.size : Int) ≤ 100 := by omega
      cases g
      · have F := hide (show ia = R by rw [← unhide E]; simp [hv])
        clear E
        go_enter Tryz.func346, Tryz.ntmps346
        go_wp2_with (first | (go_at_call 272; refine (unhide S1 _).mono ?_; rintro e w1 ⟨rfl, rfl⟩) | (go_at_call 129; refine (unhide S3 _).mono ?_; rintro e w1 ⟨rfl, rfl⟩))
        go_ret
        exact ⟨ret_bool (unhide F), unhide B0⟩
      · cases hz : v.toList.isEmpty
        · have F := hide (show false = R by rw [← unhide E]; simp [hz])
          clear E
          go_enter Tryz.func346, Tryz.ntmps346
          go_wp2_with (first | (go_at_call 272; refine (unhide S1 _).mono ?_; rintro e w1 ⟨rfl, rfl⟩) | (go_at_call 129; refine (unhide S3 _).mono ?_; rintro e w1 ⟨rfl, rfl⟩))
          go_ret
          exact ⟨ret_bool (unhide F), unhide B0⟩
        · have F := hide (show ia = R by rw [← unhide E]; simp [hv, hz])
          clear E
          go_enter Tryz.func346, Tryz.ntmps346
          go_wp2_with (first | (go_at_call 272; refine (unhide S1 _).mono ?_; rintro e w1 ⟨rfl, rfl⟩) | (go_at_call 129; refine (unhide S3 _).mono ?_; rintro e w1 ⟨rfl, rfl⟩))
          go_ret
          exact ⟨ret_bool (unhide F), unhide B0⟩
    · have hv' : ¬ (v.size : Int) ≤ 100 := by omega
      have F := hide (show false = R by rw [← unhide E]; simp [hv])
      clear E
      go_enter Tryz.func346, Tryz.ntmps346
      go_wp2_with (go_at_call 272; refine (unhide S1 _).mono ?_; rintro e w1 ⟨rfl, rfl⟩)
      go_ret
      exact ⟨ret_bool (unhide F), unhide B0⟩
set_option maxHeartbeats 2000000 in
theorem l06Before_any (a b : VerD) (w : World) : Calls Tryz.prog 257 #[vv a, vv b] w fun e w' => e = .returned (.bool (ltV a b)) ∧ Below w.heap.size w w' := by
  obtain ⟨k, t, v, g⟩ := a
  obtain ⟨k', t', v', g'⟩ := b
  unfold vv
  have B0 := hide (show Below w.heap.size w ((w.alloc (.cells #[.string k, .int .i64 t, .string v, .bool g] 51)).alloc (.cells #[.string k', .int .i64 t', .string v', .bool g'] 51)) from ((Below.refl _ _).alloc (Nat.le_refl _) _).alloc (by simp) _)
  by_cases h : k = k'
  · subst h
    have F := hide (show decide (t < t') = ltV ⟨k, t, v, g⟩ ⟨k, t', v', g'⟩ by unfold ltV; rw [ltK_irr]; simp)
    generalize ltV ⟨k, t, v, g⟩ ⟨k, t', v', g'⟩ = R at *
    go_enter Tryz.func257, Tryz.ntmps257
    go_wp2_with fail
    go_ret
    exact ⟨ret_bool (unhide F), unhide B0⟩
  · have F := hide (show Op.bytesLess k.toList k'.toList = ltV ⟨k, t, v, g⟩ ⟨k', t', v', g'⟩ by unfold ltV ltK; simp [h])
    generalize ltV ⟨k, t, v, g⟩ ⟨k', t', v', g'⟩ = R at *
    have hne := vs_ne h
    go_enter Tryz.func257, Tryz.ntmps257
    go_wp2_with fail
    go_ret
    exact ⟨ret_bool (unhide F), unhide B0⟩
end Go.Proofs.YtcflepnckjappaaGreat
