/-
  PageF, PageG, PageH, PageI, PageJ, PageK, PageM, XaC, TxL, VeD, VsA, VsB, VeS, AppL, VpA, TxA, GdP, TxB, TxC, TxE in one.
-/
import Derived.Test.YtfajenejngddeaaGreatPageC
import Derived.Deep.RegionWith
import Derived.Test.YtfajenejngddeaaGreatPageE
import Derived.Deep.DeepCutAuto
import Derived.Test.YtfajenejngddeaaGreatRowB
import Derived.Test.YtfajenejngddeaaGreatVoA
import Derived.Test.YtfajenejngddeaaGreatVeL
import Derived.Sort.KeysCollected
import Derived.Sort.Walk0
import Derived.Test.YtfajenejngddeaaGreatVrL
import Derived.Test.YtfajenejngddeaaGreatTakes
import Derived.Deep.Cut
import Derived.Test.YtfajenejngddeaaGreatVrT
import Derived.Test.YtfajenejngddeaaGreatFnT
import Derived.Test.YtfajenejngddeaaGreatWrT
import Derived.Test.YtfajenejngddeaaGreatGdA
import Derived.Test.YtfajenejngddeaaGreatSeA
namespace Go.Proofs.YtfajenejngddeaaGreat
open Go.RowKit

end Go.Proofs.YtfajenejngddeaaGreat

namespace Go.Proofs.YtfajenejngddeaaGreat
open Go.RowKit

end Go.Proofs.YtfajenejngddeaaGreat

namespace Go.Proofs.YtfajenejngddeaaGreat
open Go.RowKit

end Go.Proofs.YtfajenejngddeaaGreat

namespace Go.Proofs.YtfajenejngddeaaGreat
open Go.RowKit

/-- A slice of changes as it reads. -/
def DRow (w : World) (a : Option Addr) (n : Nat) (ds : List DelD) : Prop :=
  ds.length = n ∧ ∀ i (hi : i < ds.length), ∃ b off, a = some ⟨b, off, none⟩ ∧ w.cell? ⟨b, off + i * 4, none⟩ = some (.int .i64 ds[i].kind) ∧ w.cell? ⟨b, off + i * 4 + 1, none⟩ = some (.string ds[i].k) ∧
    w.cell? ⟨b, off + i * 4 + 2, none⟩ = some (.string ds[i].v) ∧ w.cell? ⟨b, off + i * 4 + 3, none⟩ = some (.int .i64 ds[i].to)
theorem DRow.below {w w' : World} {a : Option Addr} {n : Nat} {ds : List DelD} (h : DRow w a n ds) (hb : Below w.heap.size w w') : DRow w' a n ds := by
  refine ⟨h.1, fun i hi => ?_⟩
  obtain ⟨b, off, e, c0, c1, c2, c3⟩ := h.2 i hi
  have hbl : b < w.heap.size := cell_lt c0
  exact ⟨b, off, e, (hb.cell (p := ⟨b, off + i * 4, none⟩) hbl).trans c0, (hb.cell (p := ⟨b, off + i * 4 + 1, none⟩) hbl).trans c1, (hb.cell (p := ⟨b, off + i * 4 + 2, none⟩) hbl).trans c2, (hb.cell (p := ⟨b, off + i * 4 + 3, none⟩) hbl).trans c3⟩
end Go.Proofs.YtfajenejngddeaaGreat

namespace Go.Proofs.YtfajenejngddeaaGreat
open Go.RowKit

end Go.Proofs.YtfajenejngddeaaGreat

namespace Go.Proofs.YtfajenejngddeaaGreat
open Go.RowKit

end Go.Proofs.YtfajenejngddeaaGreat

namespace Go.Proofs.YtfajenejngddeaaGreat
open Go.RowKit

/-- Entries with one changed. -/
def putE (es : List EntD) (e : EntD) (gone : Bool) : List EntD := stepE es ⟨if gone then 2 else 1, e.k, e.v, 0⟩
end Go.Proofs.YtfajenejngddeaaGreat

namespace Go.Proofs.YtfajenejngddeaaGreat
open Go.RowKit

structure TxD where
  kind : Int
  ses : Int
  key : ByteArray
  «to» : ByteArray
  val : ByteArray
/-- The record as it lies in memory. -/
def xv (d : TxD) : Value := .agg #[.int .i64 d.kind, .int .i64 d.ses, .string d.key, .string d.to, .string d.val]
/-- A slice of records as it reads. -/
def XRow (w : World) (a : Option Addr) (n : Nat) (ds : List TxD) : Prop :=
  ds.length = n ∧ ∀ i (hi : i < ds.length), ∃ b off, a = some ⟨b, off, none⟩ ∧ w.cell? ⟨b, off + i * 5, none⟩ = some (.int .i64 ds[i].kind) ∧ w.cell? ⟨b, off + i * 5 + 1, none⟩ = some (.int .i64 ds[i].ses) ∧ w.cell? ⟨b, off + i * 5 + 2, none⟩ = some (.string ds[i].key) ∧ w.cell? ⟨b, off + i * 5 + 3, none⟩ = some (.string ds[i].to) ∧ w.cell? ⟨b, off + i * 5 + 4, none⟩ = some (.string ds[i].val)
theorem XRow.below {w w' : World} {a : Option Addr} {n : Nat} {ds : List TxD} (h : XRow w a n ds) (hb : Below w.heap.size w w') : XRow w' a n ds := by
  refine ⟨h.1, fun i hi => ?_⟩
  obtain ⟨b, off, e, c0, c1, c2, c3, c4⟩ := h.2 i hi
  have hbl : b < w.heap.size := cell_lt c0
  exact ⟨b, off, e, (hb.cell (p := ⟨b, off + i * 5, none⟩) hbl).trans c0, (hb.cell (p := ⟨b, off + i * 5 + 1, none⟩) hbl).trans c1, (hb.cell (p := ⟨b, off + i * 5 + 2, none⟩) hbl).trans c2, (hb.cell (p := ⟨b, off + i * 5 + 3, none⟩) hbl).trans c3, (hb.cell (p := ⟨b, off + i * 5 + 4, none⟩) hbl).trans c4⟩
end Go.Proofs.YtfajenejngddeaaGreat

namespace Go.Proofs.YtfajenejngddeaaGreat
open Go.RowKit

/-- A reply. -/
structure RepD where
  code : Int
  time : Int
  val : ByteArray
  list : List EntD
/-- The first place whose version is not ahead of one. -/
def posV : List VerD → VerD → Nat
  | [], _ => 0
  | d :: r, x => if ltV d x then posV r x + 1 else 0
theorem posV_le : ∀ (ds : List VerD) (x : VerD), posV ds x ≤ ds.length
  | [], _ => Nat.le_refl _
  | d :: r, x => by
    unfold posV
    have := posV_le r x
    split <;> simp <;> omega
def sameV (a b : VerD) : Bool := decide (a.k = b.k) && decide (a.t = b.t)
/-- One of the same key and time stands there. -/
def hitV (ds : List VerD) (x : VerD) : Bool := match ds[posV ds x]? with
  | some d => sameV d x
  | none => false
/-- A version put in its place, for one of the same key and time. -/
def insV (ds : List VerD) (x : VerD) : List VerD := ds.take (posV ds x) ++ x :: ds.drop (posV ds x + (if hitV ds x = true then 1 else 0))
theorem insV_len (ds : List VerD) (x : VerD) : (insV ds x).length ≤ ds.length + 1 := by
  unfold insV
  have := posV_le ds x
  simp only [List.length_append, List.length_take, List.length_cons, List.length_drop]
  omega
def kvE (d : KvD) : EntD := ⟨d.k, d.v⟩
/-- What a session sees. -/
def seenV (d : VsD) (s : SesD) : List EntD := s.ws.foldl (fun es x => putE es ⟨x.k, x.v⟩ x.g) ((entsAt d.list s.t).map kvE)
def getR (es : List EntD) (k : ByteArray) (t : Int) : RepD := es.foldl (fun r e => if e.k = k then ⟨0, t, e.v, []⟩ else r) ⟨5, t, ⟨#[]⟩, []⟩
/-- A write comes too late. -/
def conV (d : VsD) (x : VerD) : Bool := d.list.any (fun y => decide (y.k = x.k) && decide (x.t < y.t)) || d.fen.any (fun f => decide (x.t < f.t) && inK f.f f.u x.k)
def repV (c t : Int) : RepD := ⟨c, t, ⟨#[]⟩, []⟩
def clS : SesD := ⟨false, 0, []⟩
def fenV (d : VsD) (f : FenD) (r : RepD) : VsD × RepD := if d.fen.length = 4096 then (d, repV 7 r.time) else (⟨d.next, d.list, d.fen ++ [f], d.ses⟩, r)
/-- The sizes of an act's texts. -/
def fitA (a : TxD) : Bool := if a.kind = 2 ∨ a.kind = 4 ∨ a.kind = 5 then keyK a.key && valK a.val else if a.kind = 3 then decide (a.key.size ≤ 40) && decide (a.to.size ≤ 40) else true
def wrA (a : TxD) (t : Int) : VerD := if a.kind = 5 then ⟨a.key, t, ⟨#[]⟩, true⟩ else ⟨a.key, t, a.val, false⟩
def nulK (k : ByteArray) : ByteArray := k ++ ⟨#[0]⟩
/-- An act of an open session, of right sizes. -/
def inV (d : VsD) (a : TxD) (i : Nat) (s : SesD) : VsD × RepD :=
  if a.kind = 2 then fenV d ⟨a.key, nulK a.key, s.t⟩ (getR (seenV d s) a.key s.t)
  else if a.kind = 3 then fenV d ⟨a.key, a.to, s.t⟩ ⟨0, s.t, ⟨#[]⟩, (seenV d s).filter (fun e => inK a.key a.to e.k)⟩
  else if a.kind = 4 ∨ a.kind = 5 then
    if 8 < (insV s.ws (wrA a s.t)).length then (d, repV 7 s.t) else (⟨d.next, d.list, d.fen, d.ses.set i ⟨s.o, s.t, insV s.ws (wrA a s.t)⟩⟩, repV 0 s.t)
  else if a.kind = 6 then
    if s.ws.any (conV d) = true then (⟨d.next, d.list, d.fen, d.ses.set i clS⟩, repV 9 s.t) else (⟨d.next, s.ws.foldl insV d.list, d.fen, d.ses.set i clS⟩, repV 0 s.t)
  else (⟨d.next, d.list, d.fen, d.ses.set i clS⟩, repV 0 s.t)
/-- An act of a session. -/
def sesV (d : VsD) (a : TxD) (i : Nat) (s : SesD) : VsD × RepD :=
  if a.kind = 1 then
    if s.o = true then (d, repV 8 0) else if d.next = 1000 then (d, repV 7 0) else (⟨d.next + 1, d.list, d.fen, d.ses.set i ⟨true, d.next, []⟩⟩, repV 0 d.next)
  else if s.o = false then (d, repV 10 0)
  else if fitA a = false then (d, repV 11 s.t)
  else inV d a i s
def stepV (d : VsD) (a : TxD) : VsD × RepD :=
  if ¬ (1 ≤ a.kind ∧ a.kind ≤ 7) then (d, repV 3 0)
  else if ¬ (0 ≤ a.ses ∧ a.ses ≤ 3) then (d, repV 4 0)
  else sesV d a a.ses.toNat (d.ses.getD a.ses.toNat clS)
def newV : VsD := ⟨1, [], [], List.replicate 4 clS⟩
end Go.Proofs.YtfajenejngddeaaGreat

namespace Go.Proofs.YtfajenejngddeaaGreat
open Go.RowKit Go.Maps

/-- The keys of the first so many, each once. -/
def dkTo (ds : List VerD) : Nat → List ByteArray
  | 0 => []
  | j + 1 => dkTo ds j ++ (if hi : j < ds.length then (if 0 < j ∧ (ds[j - 1]'(by omega)).k = ds[j].k then [] else [ds[j].k]) else [])
def dkeys (ds : List VerD) : List ByteArray := dkTo ds ds.length
theorem dk_again {ds : List VerD} {j : Nat} (hj : j < ds.length) (h : 0 < j ∧ (ds[j - 1]'(by omega)).k = ds[j].k) : dkTo ds (j + 1) = dkTo ds j := by
  simp only [dkTo, dif_pos hj, if_pos h, List.append_nil]
theorem dk_new {ds : List VerD} {j : Nat} (hj : j < ds.length) (h : ¬ (0 < j ∧ (ds[j - 1]'(by omega)).k = ds[j].k)) : dkTo ds (j + 1) = dkTo ds j ++ [ds[j].k] := by
  simp only [dkTo, dif_pos hj, if_neg h]
theorem dk_mem (ds : List VerD) (x : ByteArray) : ∀ j, j ≤ ds.length → (x ∈ dkTo ds j ↔ ∃ i, ∃ h : i < ds.length, i < j ∧ ds[i].k = x)
  | 0, _ => by simp [dkTo]
  | j + 1, hj => by
    have hj2 : j < ds.length := hj
    have ih := dk_mem ds x j (by omega)
    by_cases h : 0 < j ∧ (ds[j - 1]'(by omega)).k = ds[j].k
    · rw [dk_again hj2 h, ih]
      constructor
      · rintro ⟨i, hi, h1, h2⟩
        exact ⟨i, hi, by omega, h2⟩
      · rintro ⟨i, hi, h1, h2⟩
        by_cases e : i < j
        · exact ⟨i, hi, e, h2⟩
        · obtain rfl : i = j := by omega
          exact ⟨i - 1, by omega, by omega, h.2.trans h2⟩
    · rw [dk_new hj2 h, List.mem_append, ih, List.mem_singleton]
      constructor
      · rintro (⟨i, hi, h1, h2⟩ | h2)
        · exact ⟨i, hi, by omega, h2⟩
        · exact ⟨j, hj2, by omega, h2.symm⟩
      · rintro ⟨i, hi, h1, h2⟩
        by_cases e : i < j
        · exact .inl ⟨i, hi, e, h2⟩
        · obtain rfl : i = j := by omega
          exact .inr h2.symm
theorem okVs_lt2 {ds : List VerD} (h : okVs ds = true) {i j : Nat} (hj : j < ds.length) (hij : i < j) : ltV (ds[i]'(by omega)) ds[j] = true := List.pairwise_iff_getElem.1 (okVs_pair h) i j _ hj hij
theorem ltV_or {a b : VerD} (h : ltV a b = true) : ltK a.k b.k = true ∨ a.k = b.k := by
  unfold ltV at h
  simp only [Bool.or_eq_true, Bool.and_eq_true, decide_eq_true_eq] at h
  rcases h with h | h
  · exact .inl h
  · exact .inr h.1
theorem dk_rise {ds : List VerD} (ok : okVs ds = true) : ∀ j, j ≤ ds.length → (dkTo ds j).Pairwise fun a b => ltK a b = true
  | 0, _ => List.Pairwise.nil
  | j + 1, hj => by
    have hj2 : j < ds.length := hj
    have ih := dk_rise ok j (by omega)
    by_cases h : 0 < j ∧ (ds[j - 1]'(by omega)).k = ds[j].k
    · rw [dk_again hj2 h]
      exact ih
    · rw [dk_new hj2 h, List.pairwise_append]
      refine ⟨ih, List.pairwise_singleton _ _, fun a ha b hb => ?_⟩
      obtain rfl : b = ds[j].k := by simpa using hb
      obtain ⟨i, hi, hij, rfl⟩ := (dk_mem ds a j (by omega)).1 ha
      rcases ltV_or (okVs_lt2 ok hj2 hij) with e | e
      · exact e
      · exfalso
        have hp : ¬ (ds[j - 1]'(by omega)).k = ds[j].k := fun e => h ⟨by omega, e⟩
        by_cases e1 : i = j - 1
        · subst e1
          exact hp e
        · have h2 := ltV_or (okVs_lt2 ok (i := j - 1) hj2 (by omega))
          have h1 := ltV_or (okVs_lt2 ok (i := i) (j := j - 1) (by omega) (by omega))
          rcases h2 with h2 | h2
          · rcases h1 with h1 | h1
            · have := ltK_trans h1 h2
              rw [e, ltK_irr] at this
              exact absurd this (by decide)
            · rw [← h1, e, ltK_irr] at h2
              exact absurd h2 (by decide)
          · exact hp h2
theorem ltK_le {a b : ByteArray} (h : ltK a b = true) : a.data.toList < b.data.toList := by
  unfold ltK at h
  rw [ByteArray.toList_eq, ByteArray.toList_eq, bytesLess_eq] at h
  exact of_decide_eq_true h
/-- The keys as lists of bytes. -/
def dkB (ds : List VerD) : List (List UInt8) := (dkeys ds).map fun k => k.data.toList
theorem dkB_lt {ds : List VerD} (ok : okVs ds = true) : (dkB ds).Pairwise fun a b => a < b := List.pairwise_map.2 ((dk_rise ok _ (Nat.le_refl _)).imp fun h => ltK_le h)
theorem dkB_nodup {ds : List VerD} (ok : okVs ds = true) : (dkB ds).Nodup := (dkB_lt ok).imp fun {a b} h e => by subst e; exact List.lt_irrefl _ h
theorem dkB_sort {ds : List VerD} (ok : okVs ds = true) {ss : List (List UInt8)} (h : ss.Perm (dkB ds)) : ss.mergeSort (fun x y => decide (x ≤ y)) = dkB ds := by
  rw [mergeSort_of_perm h]
  refine List.mergeSort_of_pairwise ((dkB_lt ok).imp fun h => ?_)
  exact decide_eq_true (List.le_of_lt h)
theorem dkB_mem {ds : List VerD} (x : List UInt8) : x ∈ dkB ds ↔ ∃ i, ∃ h : i < ds.length, ds[i].k.data.toList = x := by
  unfold dkB dkeys
  rw [List.mem_map]
  constructor
  · rintro ⟨k, hk, rfl⟩
    obtain ⟨i, hi, _, rfl⟩ := (dk_mem ds k _ (Nat.le_refl _)).1 hk
    exact ⟨i, hi, rfl⟩
  · rintro ⟨i, hi, rfl⟩
    exact ⟨_, (dk_mem ds _ _ (Nat.le_refl _)).2 ⟨i, hi, hi, rfl⟩, rfl⟩
theorem dkTo_len (ds : List VerD) : ∀ j, (dkTo ds j).length ≤ j
  | 0 => by simp [dkTo]
  | j + 1 => by
    have := dkTo_len ds j
    simp only [dkTo, List.length_append]
    split
    · split <;> simp <;> omega
    · simp; omega
theorem grp_ne {ds : List VerD} {k : ByteArray} : grp ds k ≠ [] ↔ ∃ i, ∃ h : i < ds.length, ds[i].k = k := by
  constructor
  · intro h
    obtain ⟨d, hd⟩ := List.exists_mem_of_ne_nil _ h
    obtain ⟨h1, h2⟩ := List.mem_filter.1 hd
    obtain ⟨i, hi, rfl⟩ := List.getElem_of_mem h1
    exact ⟨i, hi, of_decide_eq_true h2⟩
  · rintro ⟨i, hi, rfl⟩ e
    have : ds[i] ∈ grp ds ds[i].k := List.mem_filter.2 ⟨List.getElem_mem hi, decide_eq_true rfl⟩
    rw [e] at this
    exact absurd this (List.not_mem_nil)
end Go.Proofs.YtfajenejngddeaaGreat

namespace Go.Proofs.YtfajenejngddeaaGreat
open Go.RowKit

theorem vs_l01In (n a b : Int) (w : World) : Calls Tryz.prog 55 #[.int .i64 n, .int .i64 a, .int .i64 b] w fun e w' => e = .returned (.bool (decide (a ≤ n) && decide (n ≤ b))) ∧ w' = w := by
  by_cases h : a ≤ n
  · have E := hide (show decide (n ≤ b) = (decide (a ≤ n) && decide (n ≤ b)) by rw [decide_eq_true h]; rfl)
    go_enter Tryz.func55, Tryz.ntmps55
    go_wp2_with fail
    go_ret
    exact ⟨ret_bool (unhide E), rfl⟩
  · have E := hide (show false = (decide (a ≤ n) && decide (n ≤ b)) by rw [decide_eq_false h]; rfl)
    go_enter Tryz.func55, Tryz.ntmps55
    go_wp2_with fail
    go_ret
    exact ⟨ret_bool (unhide E), rfl⟩
theorem vs_l04Key (k : ByteArray) (w : World) : Calls Tryz.prog 56 #[.string k] w fun e w' => e = .returned (.bool (keyK k)) ∧ w' = w := by
  by_cases h : 0 < k.size
  · have E := hide (show decide ((k.size : Int) ≤ 40) = keyK k by unfold keyK; rw [decide_eq_decide]; omega)
    go_enter Tryz.func56, Tryz.ntmps56
    go_wp2_with fail
    go_ret
    exact ⟨ret_bool (unhide E), rfl⟩
  · have E := hide (show false = keyK k by unfold keyK; rw [decide_eq_false]; omega)
    go_enter Tryz.func56, Tryz.ntmps56
    go_wp2_with fail
    go_ret
    exact ⟨ret_bool (unhide E), rfl⟩
theorem vs_ne {a b : ByteArray} (h : ¬ a = b) : (a.toList == b.toList) = false := by
  cases hq : (a.toList == b.toList) with
  | false => rfl
  | true =>
    refine absurd ?_ h
    have e : a.toList = b.toList := by simpa using hq
    rw [ByteArray.toList_eq, ByteArray.toList_eq] at e
    cases a
    cases b
    simp_all
set_option maxHeartbeats 2000000 in
theorem l06Right_any (d : VerD) (w : World) : Calls Tryz.prog 72 #[vv d] w fun e w' => e = .returned (.bool (verK d)) ∧ Below w.heap.size w w' := by
  obtain ⟨k, t, v, g⟩ := d
  unfold vv
  have B0 := hide (show Below w.heap.size w (w.alloc (.cells #[.string k, .int .i64 t, .string v, .bool g] 39)) from (Below.refl _ _).alloc (Nat.le_refl _) _)
  have E := hide (show ∀ a c : Bool, keyK k = a → idK t = c → (a && decide (v.size ≤ 100) && c && (!g || v.toList.isEmpty)) = verK ⟨k, t, v, g⟩ from fun a c ha hc => by subst ha hc; rfl)
  have S1 := hide (vs_l04Key k)
  have S3 := hide (show ∀ w, Calls Tryz.prog 55 #[.int .i64 t, .int .i64 0, .int .i64 1000] w fun e w' => e = .returned (.bool (idK t)) ∧ w' = w from fun w => by
    have := vs_l01In t 0 1000 w
    rw [show (decide (0 ≤ t) && decide (t ≤ 1000)) = idK t by unfold idK; rw [Bool.decide_and]] at this
    exact this)
  generalize hka : keyK k = ka at *
  generalize hia : idK t = ia at *
  replace E := hide (unhide E ka ia rfl rfl)
  generalize verK ⟨k, t, v, g⟩ = R at *
  clear hka hia
  cases ka
  · have F := hide (show false = R by rw [← unhide E]; simp)
    clear E
    go_enter Tryz.func72, Tryz.ntmps72
    go_wp2_with (go_at_call 56; refine (unhide S1 _).mono ?_; rintro e w1 ⟨rfl, rfl⟩)
    go_ret
    exact ⟨ret_bool (unhide F), unhide B0⟩
  · by_cases hv : v.size ≤ 100
    · have hv' : (v.size : Int) ≤ 100 := by omega
      cases g
      · have F := hide (show ia = R by rw [← unhide E]; simp [hv])
        clear E
        go_enter Tryz.func72, Tryz.ntmps72
        go_wp2_with (first | (go_at_call 56; refine (unhide S1 _).mono ?_; rintro e w1 ⟨rfl, rfl⟩) | (go_at_call 55; refine (unhide S3 _).mono ?_; rintro e w1 ⟨rfl, rfl⟩))
        go_ret
        exact ⟨ret_bool (unhide F), unhide B0⟩
      · cases hz : v.toList.isEmpty
        · have F := hide (show false = R by rw [← unhide E]; simp [hz])
          clear E
          go_enter Tryz.func72, Tryz.ntmps72
          go_wp2_with (first | (go_at_call 56; refine (unhide S1 _).mono ?_; rintro e w1 ⟨rfl, rfl⟩) | (go_at_call 55; refine (unhide S3 _).mono ?_; rintro e w1 ⟨rfl, rfl⟩))
          go_ret
          exact ⟨ret_bool (unhide F), unhide B0⟩
        · have F := hide (show ia = R by rw [← unhide E]; simp [hv, hz])
          clear E
          go_enter Tryz.func72, Tryz.ntmps72
          go_wp2_with (first | (go_at_call 56; refine (unhide S1 _).mono ?_; rintro e w1 ⟨rfl, rfl⟩) | (go_at_call 55; refine (unhide S3 _).mono ?_; rintro e w1 ⟨rfl, rfl⟩))
          go_ret
          exact ⟨ret_bool (unhide F), unhide B0⟩
    · have hv' : ¬ (v.size : Int) ≤ 100 := by omega
      have F := hide (show false = R by rw [← unhide E]; simp [hv])
      clear E
      go_enter Tryz.func72, Tryz.ntmps72
      go_wp2_with (go_at_call 56; refine (unhide S1 _).mono ?_; rintro e w1 ⟨rfl, rfl⟩)
      go_ret
      exact ⟨ret_bool (unhide F), unhide B0⟩
set_option maxHeartbeats 2000000 in
theorem l06Before_any (a b : VerD) (w : World) : Calls Tryz.prog 73 #[vv a, vv b] w fun e w' => e = .returned (.bool (ltV a b)) ∧ Below w.heap.size w w' := by
  obtain ⟨k, t, v, g⟩ := a
  obtain ⟨k', t', v', g'⟩ := b
  unfold vv
  have B0 := hide (show Below w.heap.size w ((w.alloc (.cells #[.string k, .int .i64 t, .string v, .bool g] 39)).alloc (.cells #[.string k', .int .i64 t', .string v', .bool g'] 39)) from ((Below.refl _ _).alloc (Nat.le_refl _) _).alloc (by simp) _)
  by_cases h : k = k'
  · subst h
    have F := hide (show decide (t < t') = ltV ⟨k, t, v, g⟩ ⟨k, t', v', g'⟩ by unfold ltV; rw [ltK_irr]; simp)
    generalize ltV ⟨k, t, v, g⟩ ⟨k, t', v', g'⟩ = R at *
    go_enter Tryz.func73, Tryz.ntmps73
    go_wp2_with fail
    go_ret
    exact ⟨ret_bool (unhide F), unhide B0⟩
  · have F := hide (show Op.bytesLess k.toList k'.toList = ltV ⟨k, t, v, g⟩ ⟨k', t', v', g'⟩ by unfold ltV ltK; simp [h])
    generalize ltV ⟨k, t, v, g⟩ ⟨k', t', v', g'⟩ = R at *
    have hne := vs_ne h
    go_enter Tryz.func73, Tryz.ntmps73
    go_wp2_with fail
    go_ret
    exact ⟨ret_bool (unhide F), unhide B0⟩
end Go.Proofs.YtfajenejngddeaaGreat

namespace Go.Proofs.YtfajenejngddeaaGreat
open Go.RowKit

theorem vs_step {ds : List VerD} {k : Nat} {b : Bool} (hk : k < ds.length) (hok : ∀ i, i < k → okAtV ds i = true) (h : okAtV ds k = b) : if b = true then ∀ i, i < k + 1 → okAtV ds i = true else okVs ds = false := by
  cases b
  · exact okVs_false hk h
  · intro i hi
    by_cases e : i < k
    · exact hok i e
    · rw [show i = k by omega]; exact h
set_option maxRecDepth 100000 in
set_option maxHeartbeats 8000000 in
theorem l06List_any (a : Option Addr) (n c : Nat) (ds : List VerD) (w : World) (hn : n ≤ 1048576) (hr : VRow w a n ds) :
    Calls Tryz.prog 30 #[.slice a n c] w fun e w' => e = .returned (.bool (okVs ds)) ∧ Below w.heap.size w w' := by
  have L := hide hr.1
  have R := hide hr
  clear hr
  go_enter Tryz.func30, Tryz.ntmps30
  go_wp2_with fail
  go_loopw [3] (fun i wr => ∃ k : Nat, k ≤ n ∧ i = .int .i64 k ∧ Hid (∀ i, i < k → okAtV ds i = true) ∧ Hid (Below w.heap.size w wr)) (fun i _ => n - (intOf i).toNat)
  case atStart => exact ⟨0, by omega, rfl, (fun i hi => absurd hi (Nat.not_lt_zero _)), Below.refl _ _⟩
  case round =>
    obtain ⟨k, hk, rfl, hok, hb⟩ := hrel
    by_cases hlt : k < n
    · have hk2 : k < ds.length := by rw [unhide L]; exact hlt
      have hkn : (k : Int) < (n : Int) := by omega
      obtain ⟨b, off, rfl, d0, d1, d2, d3⟩ := ((unhide R).below (unhide hb)).2 k hk2
      have hsz := (unhide hb).size
      have ST := hide (fun b => vs_step (b := b) hk2 (unhide hok))
      have E0 := hide (show k = 0 → okAtV ds k = verK ds[k] from fun e => by subst e; exact okAtV_zero hk2)
      have E1 := hide (show ∀ (h : 0 < k), okAtV ds k = (verK ds[k] && ltV (ds[k - 1]'(by omega)) ds[k]) from fun h => by
        obtain ⟨j, rfl⟩ : ∃ j, k = j + 1 := ⟨k - 1, by omega⟩
        exact okAtV_succ hk2)
      have SV := hide (fun (u : World) (hb : Below wr.heap.size wr u) => (l06Right_any ds[k] u).mono fun e u' h => show e = .returned (.bool (verK ds[k])) ∧ Below wr.heap.size wr u' from ⟨h.1, hb.trans (h.2.mono hb.size)⟩)
      have SC0 := hide (fun j (hj : j < ds.length) (u : World) (hb : Below wr.heap.size wr u) => (l06Before_any ds[j] ds[k] u).mono fun e u' h => show e = .returned (.bool (ltV ds[j] ds[k])) ∧ Below wr.heap.size wr u' from ⟨h.1, hb.trans (h.2.mono hb.size)⟩)
      generalize ds[k] = pd at *
      obtain ⟨pk, pt, pv, pg⟩ := pd
      simp only at d0 d1 d2 d3
      unfold vv at SV SC0
      simp only at SV SC0
      clear hok
      have BE := hide (show ∀ u, Below wr.heap.size wr u → Below w.heap.size w u from fun u hb' => (unhide hb).trans (hb'.mono hsz))
      have SK := hide (show ∀ u, Below wr.heap.size wr u → (fun u => Below wr.heap.size wr u ∧ u.cell? ⟨b, off + k * 4, none⟩ = some (.string pk) ∧ u.cell? ⟨b, off + k * 4 + 1, none⟩ = some (.int .i64 pt) ∧ u.cell? ⟨b, off + k * 4 + 2, none⟩ = some (.string pv) ∧ u.cell? ⟨b, off + k * 4 + 3, none⟩ = some (.bool pg)) u from fun u hb =>
        ⟨hb, (hb.cell (p := ⟨b, off + k * 4, none⟩) (cell_lt d0)).trans d0, (hb.cell (p := ⟨b, off + k * 4 + 1, none⟩) (cell_lt d1)).trans d1, (hb.cell (p := ⟨b, off + k * 4 + 2, none⟩) (cell_lt d2)).trans d2, (hb.cell (p := ⟨b, off + k * 4 + 3, none⟩) (cell_lt d3)).trans d3⟩)
      have G0 : Below wr.heap.size wr wr.drew := (Below.refl _ _).drew
      clear d0 d1 d2 d3
      go_upto_region 4 with fail
      generalize hvk : verK ⟨pk, pt, pv, pg⟩ = vk at *
      cases vk
      · have Z := hide (show okVs ds = false by
          have := unhide ST false (by
            by_cases h0 : k = 0
            · exact unhide E0 h0
            · rw [unhide E1 (by omega)]; rfl)
          simpa using this)
        refine wp_region_held_drew (S := (fun u => Below wr.heap.size wr u ∧ u.cell? ⟨b, off + k * 4, none⟩ = some (.string pk) ∧ u.cell? ⟨b, off + k * 4 + 1, none⟩ = some (.int .i64 pt) ∧ u.cell? ⟨b, off + k * 4 + 2, none⟩ = some (.string pv) ∧ u.cell? ⟨b, off + k * 4 + 3, none⟩ = some (.bool pg))) (by kernel_rfl) (unhide SK _ G0) (fun hHeld => ?_)
        refine anyH_take 0 10 (v := ?v1) rfl rfl (by kernel_rfl) (by kernel_rfl) (by kernel_rfl) (fun _ _ _ h => h) (by rfl) ?h1 hHeld ?r1
        case h1 => (intro w hSw; (try dsimp only at hSw); go_simp; try (with_reducible rfl))
        simp only [Act.put, List.setIfInBounds_toArray, List.set_cons_zero, List.set_cons_succ]
        refine anyH_take 1 11 (v := ?v2) rfl rfl (by kernel_rfl) (by kernel_rfl) (by kernel_rfl) (fun _ _ _ h => h) (by rfl) ?h2 hHeld ?r2
        case h2 => (intro w hSw; (try dsimp only at hSw); go_simp; try (with_reducible rfl))
        simp only [Act.put, List.setIfInBounds_toArray, List.set_cons_zero, List.set_cons_succ]
        refine anyH_take 2 12 (v := ?v3) rfl rfl (by kernel_rfl) (by kernel_rfl) (by kernel_rfl) (fun _ _ _ h => h) (by rfl) ?h3 hHeld ?r3
        case h3 => (intro w hSw; (try dsimp only at hSw); go_simp; try (with_reducible rfl))
        simp only [Act.put, List.setIfInBounds_toArray, List.set_cons_zero, List.set_cons_succ]
        refine anyH_take 3 13 (v := ?v4) rfl rfl (by kernel_rfl) (by kernel_rfl) (by kernel_rfl) (fun _ _ _ h => h) (by rfl) ?h4 hHeld ?r4
        case h4 => (intro w hSw; (try dsimp only at hSw); go_simp; try (with_reducible rfl))
        simp only [Act.put, List.setIfInBounds_toArray, List.set_cons_zero, List.set_cons_succ]
        refine wpAnyH_ready (rs := [4]) (by kernel_rfl) (by simp) ?_
        refine AllReadyH.cons rfl (fun K hK => ?_) AllReadyH.nil
        go_simp
        refine (unhide SV _ G0).mono ?_
        rintro e w2 ⟨rfl, b2⟩
        refine hK.out _ _ (unhide SK _ b2) (fun hHeld => ?_)
        clear hK K
        refine anyH_take 5 15 (v := ?v5) rfl rfl (by kernel_rfl) (by kernel_rfl) (by kernel_rfl) (fun _ _ _ h => h) (by rfl) ?h5 hHeld ?r5
        case h5 => (intro w hSw; (try dsimp only at hSw); go_simp; try (with_reducible rfl))
        simp only [Act.put, List.setIfInBounds_toArray, List.set_cons_zero, List.set_cons_succ]
        refine anyH_take 6 16 (v := ?v6) rfl rfl (by kernel_rfl) (by kernel_rfl) (by kernel_rfl) (fun _ _ _ h => h) (by rfl) ?h6 hHeld ?r6
        case h6 => (intro w hSw; (try dsimp only at hSw); go_simp; try (with_reducible rfl))
        simp only [Act.put, List.setIfInBounds_toArray, List.set_cons_zero, List.set_cons_succ]
        refine anyH_skip 7 17 rfl rfl (by kernel_rfl) (by kernel_rfl) (by kernel_rfl) (fun _ _ _ h => h) (by rfl) hHeld ?_
        simp only [Act.put, List.setIfInBounds_toArray, List.set_cons_zero, List.set_cons_succ]
        refine anyH_skip 8 18 rfl rfl (by kernel_rfl) (by kernel_rfl) (by kernel_rfl) (fun _ _ _ h => h) (by rfl) hHeld ?_
        simp only [Act.put, List.setIfInBounds_toArray, List.set_cons_zero, List.set_cons_succ]
        refine anyH_skip 9 19 rfl rfl (by kernel_rfl) (by kernel_rfl) (by kernel_rfl) (fun _ _ _ h => h) (by rfl) hHeld ?_
        simp only [Act.put, List.setIfInBounds_toArray, List.set_cons_zero, List.set_cons_succ]
        refine anyH_skip 10 20 rfl rfl (by kernel_rfl) (by kernel_rfl) (by kernel_rfl) (fun _ _ _ h => h) (by rfl) hHeld ?_
        simp only [Act.put, List.setIfInBounds_toArray, List.set_cons_zero, List.set_cons_succ]
        refine anyH_skip 11 21 rfl rfl (by kernel_rfl) (by kernel_rfl) (by kernel_rfl) (fun _ _ _ h => h) (by rfl) hHeld ?_
        simp only [Act.put, List.setIfInBounds_toArray, List.set_cons_zero, List.set_cons_succ]
        refine anyH_skip 12 22 rfl rfl (by kernel_rfl) (by kernel_rfl) (by kernel_rfl) (fun _ _ _ h => h) (by rfl) hHeld ?_
        simp only [Act.put, List.setIfInBounds_toArray, List.set_cons_zero, List.set_cons_succ]
        refine anyH_skip 13 23 rfl rfl (by kernel_rfl) (by kernel_rfl) (by kernel_rfl) (fun _ _ _ h => h) (by rfl) hHeld ?_
        simp only [Act.put, List.setIfInBounds_toArray, List.set_cons_zero, List.set_cons_succ]
        refine anyH_skip 14 24 rfl rfl (by kernel_rfl) (by kernel_rfl) (by kernel_rfl) (fun _ _ _ h => h) (by rfl) hHeld ?_
        simp only [Act.put, List.setIfInBounds_toArray, List.set_cons_zero, List.set_cons_succ]
        refine anyH_skip 15 25 rfl rfl (by kernel_rfl) (by kernel_rfl) (by kernel_rfl) (fun _ _ _ h => h) (by rfl) hHeld ?_
        simp only [Act.put, List.setIfInBounds_toArray, List.set_cons_zero, List.set_cons_succ]
        refine anyH_skip 16 26 rfl rfl (by kernel_rfl) (by kernel_rfl) (by kernel_rfl) (fun _ _ _ h => h) (by rfl) hHeld ?_
        simp only [Act.put, List.setIfInBounds_toArray, List.set_cons_zero, List.set_cons_succ]
        refine anyH_skip 17 27 rfl rfl (by kernel_rfl) (by kernel_rfl) (by kernel_rfl) (fun _ _ _ h => h) (by rfl) hHeld ?_
        simp only [Act.put, List.setIfInBounds_toArray, List.set_cons_zero, List.set_cons_succ]
        refine anyH_skip 18 28 rfl rfl (by kernel_rfl) (by kernel_rfl) (by kernel_rfl) (fun _ _ _ h => h) (by rfl) hHeld ?_
        simp only [Act.put, List.setIfInBounds_toArray, List.set_cons_zero, List.set_cons_succ]
        refine anyH_skip 19 29 rfl rfl (by kernel_rfl) (by kernel_rfl) (by kernel_rfl) (fun _ _ _ h => h) (by rfl) hHeld ?_
        simp only [Act.put, List.setIfInBounds_toArray, List.set_cons_zero, List.set_cons_succ]
        refine anyH_skip 20 30 rfl rfl (by kernel_rfl) (by kernel_rfl) (by kernel_rfl) (fun _ _ _ h => h) (by rfl) hHeld ?_
        simp only [Act.put, List.setIfInBounds_toArray, List.set_cons_zero, List.set_cons_succ]
        refine anyH_skip 21 31 rfl rfl (by kernel_rfl) (by kernel_rfl) (by kernel_rfl) (fun _ _ _ h => h) (by rfl) hHeld ?_
        simp only [Act.put, List.setIfInBounds_toArray, List.set_cons_zero, List.set_cons_succ]
        refine anyH_take 22 32 (v := ?v7) rfl rfl (by kernel_rfl) (by kernel_rfl) (by kernel_rfl) (fun _ _ _ h => h) (by rfl) ?h7 hHeld ?r7
        case h7 => (intro w hSw; (try dsimp only at hSw); go_simp; try (with_reducible rfl))
        simp only [Act.put, List.setIfInBounds_toArray, List.set_cons_zero, List.set_cons_succ]
        refine wpAnyH_done (by kernel_rfl) ?_ _
        have BF := unhide BE _ b2
        go_wp2_with fail
        go_ret
        exact ⟨ret_bool (unhide Z).symm, BF⟩
      · by_cases hk0 : k = 0
        · have Z := hide (show ∀ i, i < k + 1 → okAtV ds i = true by
            have := unhide ST true (unhide E0 hk0)
            simpa using this)
          have hg : decide ((0 : Int) < (k : Int)) = false := decide_eq_false (by omega)
          have hg1 : decide (0 < k) = false := decide_eq_false (by omega)
          clear hk0
          refine wp_region_held_drew (S := (fun u => Below wr.heap.size wr u ∧ u.cell? ⟨b, off + k * 4, none⟩ = some (.string pk) ∧ u.cell? ⟨b, off + k * 4 + 1, none⟩ = some (.int .i64 pt) ∧ u.cell? ⟨b, off + k * 4 + 2, none⟩ = some (.string pv) ∧ u.cell? ⟨b, off + k * 4 + 3, none⟩ = some (.bool pg))) (by kernel_rfl) (unhide SK _ G0) (fun hHeld => ?_)
          refine anyH_take 0 10 (v := ?v8) rfl rfl (by kernel_rfl) (by kernel_rfl) (by kernel_rfl) (fun _ _ _ h => h) (by rfl) ?h8 hHeld ?r8
          case h8 => (intro w hSw; (try dsimp only at hSw); go_simp; try (with_reducible rfl))
          simp only [Act.put, List.setIfInBounds_toArray, List.set_cons_zero, List.set_cons_succ]
          refine anyH_take 1 11 (v := ?v9) rfl rfl (by kernel_rfl) (by kernel_rfl) (by kernel_rfl) (fun _ _ _ h => h) (by rfl) ?h9 hHeld ?r9
          case h9 => (intro w hSw; (try dsimp only at hSw); go_simp; try (with_reducible rfl))
          simp only [Act.put, List.setIfInBounds_toArray, List.set_cons_zero, List.set_cons_succ]
          refine anyH_take 2 12 (v := ?v10) rfl rfl (by kernel_rfl) (by kernel_rfl) (by kernel_rfl) (fun _ _ _ h => h) (by rfl) ?h10 hHeld ?r10
          case h10 => (intro w hSw; (try dsimp only at hSw); go_simp; try (with_reducible rfl))
          simp only [Act.put, List.setIfInBounds_toArray, List.set_cons_zero, List.set_cons_succ]
          refine anyH_take 3 13 (v := ?v11) rfl rfl (by kernel_rfl) (by kernel_rfl) (by kernel_rfl) (fun _ _ _ h => h) (by rfl) ?h11 hHeld ?r11
          case h11 => (intro w hSw; (try dsimp only at hSw); go_simp; try (with_reducible rfl))
          simp only [Act.put, List.setIfInBounds_toArray, List.set_cons_zero, List.set_cons_succ]
          refine wpAnyH_ready (rs := [4]) (by kernel_rfl) (by simp) ?_
          refine AllReadyH.cons rfl (fun K hK => ?_) AllReadyH.nil
          go_simp
          refine (unhide SV _ G0).mono ?_
          rintro e w2 ⟨rfl, b2⟩
          refine hK.out _ _ (unhide SK _ b2) (fun hHeld => ?_)
          clear hK K
          refine anyH_take 5 15 (v := ?v12) rfl rfl (by kernel_rfl) (by kernel_rfl) (by kernel_rfl) (fun _ _ _ h => h) (by rfl) ?h12 hHeld ?r12
          case h12 => (intro w hSw; (try dsimp only at hSw); go_simp; try (with_reducible rfl))
          simp only [Act.put, List.setIfInBounds_toArray, List.set_cons_zero, List.set_cons_succ]
          refine anyH_take 6 16 (v := ?v13) rfl rfl (by kernel_rfl) (by kernel_rfl) (by kernel_rfl) (fun _ _ _ h => h) (by rfl) ?h13 hHeld ?r13
          case h13 => (intro w hSw; (try dsimp only at hSw); go_simp; try (with_reducible rfl))
          simp only [Act.put, List.setIfInBounds_toArray, List.set_cons_zero, List.set_cons_succ]
          refine anyH_take 7 17 (v := ?v14) rfl rfl (by kernel_rfl) (by kernel_rfl) (by kernel_rfl) (fun _ _ _ h => h) (by rfl) ?h14 hHeld ?r14
          case h14 => (intro w hSw; (try dsimp only at hSw); go_simp; try (with_reducible rfl))
          simp only [Act.put, List.setIfInBounds_toArray, List.set_cons_zero, List.set_cons_succ]
          refine anyH_take 8 18 (v := ?v15) rfl rfl (by kernel_rfl) (by kernel_rfl) (by kernel_rfl) (fun _ _ _ h => h) (by rfl) ?h15 hHeld ?r15
          case h15 => (intro w hSw; (try dsimp only at hSw); go_simp; try (with_reducible rfl))
          simp only [Act.put, List.setIfInBounds_toArray, List.set_cons_zero, List.set_cons_succ]
          refine anyH_take 9 19 (v := ?v16) rfl rfl (by kernel_rfl) (by kernel_rfl) (by kernel_rfl) (fun _ _ _ h => h) (by rfl) ?h16 hHeld ?r16
          case h16 => (intro w hSw; (try dsimp only at hSw); go_simp; try (with_reducible rfl))
          simp only [Act.put, List.setIfInBounds_toArray, List.set_cons_zero, List.set_cons_succ]
          refine anyH_skip 10 20 rfl rfl (by kernel_rfl) (by kernel_rfl) (by kernel_rfl) (fun _ _ _ h => h) (by rfl) hHeld ?_
          simp only [Act.put, List.setIfInBounds_toArray, List.set_cons_zero, List.set_cons_succ]
          refine anyH_skip 11 21 rfl rfl (by kernel_rfl) (by kernel_rfl) (by kernel_rfl) (fun _ _ _ h => h) (by rfl) hHeld ?_
          simp only [Act.put, List.setIfInBounds_toArray, List.set_cons_zero, List.set_cons_succ]
          refine anyH_skip 12 22 rfl rfl (by kernel_rfl) (by kernel_rfl) (by kernel_rfl) (fun _ _ _ h => h) (by rfl) hHeld ?_
          simp only [Act.put, List.setIfInBounds_toArray, List.set_cons_zero, List.set_cons_succ]
          refine anyH_skip 13 23 rfl rfl (by kernel_rfl) (by kernel_rfl) (by kernel_rfl) (fun _ _ _ h => h) (by rfl) hHeld ?_
          simp only [Act.put, List.setIfInBounds_toArray, List.set_cons_zero, List.set_cons_succ]
          refine anyH_skip 14 24 rfl rfl (by kernel_rfl) (by kernel_rfl) (by kernel_rfl) (fun _ _ _ h => h) (by rfl) hHeld ?_
          simp only [Act.put, List.setIfInBounds_toArray, List.set_cons_zero, List.set_cons_succ]
          refine anyH_skip 15 25 rfl rfl (by kernel_rfl) (by kernel_rfl) (by kernel_rfl) (fun _ _ _ h => h) (by rfl) hHeld ?_
          simp only [Act.put, List.setIfInBounds_toArray, List.set_cons_zero, List.set_cons_succ]
          refine anyH_skip 16 26 rfl rfl (by kernel_rfl) (by kernel_rfl) (by kernel_rfl) (fun _ _ _ h => h) (by rfl) hHeld ?_
          simp only [Act.put, List.setIfInBounds_toArray, List.set_cons_zero, List.set_cons_succ]
          refine anyH_skip 17 27 rfl rfl (by kernel_rfl) (by kernel_rfl) (by kernel_rfl) (fun _ _ _ h => h) (by rfl) hHeld ?_
          simp only [Act.put, List.setIfInBounds_toArray, List.set_cons_zero, List.set_cons_succ]
          refine anyH_skip 18 28 rfl rfl (by kernel_rfl) (by kernel_rfl) (by kernel_rfl) (fun _ _ _ h => h) (by rfl) hHeld ?_
          simp only [Act.put, List.setIfInBounds_toArray, List.set_cons_zero, List.set_cons_succ]
          refine anyH_skip 19 29 rfl rfl (by kernel_rfl) (by kernel_rfl) (by kernel_rfl) (fun _ _ _ h => h) (by rfl) hHeld ?_
          simp only [Act.put, List.setIfInBounds_toArray, List.set_cons_zero, List.set_cons_succ]
          refine anyH_skip 20 30 rfl rfl (by kernel_rfl) (by kernel_rfl) (by kernel_rfl) (fun _ _ _ h => h) (by rfl) hHeld ?_
          simp only [Act.put, List.setIfInBounds_toArray, List.set_cons_zero, List.set_cons_succ]
          refine anyH_take 21 31 (v := ?v17) rfl rfl (by kernel_rfl) (by kernel_rfl) (by kernel_rfl) (fun _ _ _ h => h) (by rfl) ?h17 hHeld ?r17
          case h17 => (intro w hSw; (try dsimp only at hSw); go_simp; try (with_reducible rfl))
          simp only [Act.put, List.setIfInBounds_toArray, List.set_cons_zero, List.set_cons_succ]
          refine anyH_take 22 32 (v := ?v18) rfl rfl (by kernel_rfl) (by kernel_rfl) (by kernel_rfl) (fun _ _ _ h => h) (by rfl) ?h18 hHeld ?r18
          case h18 => (intro w hSw; (try dsimp only at hSw); go_simp; try (with_reducible rfl))
          simp only [Act.put, List.setIfInBounds_toArray, List.set_cons_zero, List.set_cons_succ]
          refine wpAnyH_done (by kernel_rfl) ?_ _
          have BF := unhide BE _ b2
          go_wp2_with fail
          go_roundw
          case rel => exact ⟨k + 1, by omega, by go_num, unhide Z, BF⟩
          case measure => simp [intOf]; omega
        · have hj : k - 1 < ds.length := by omega
          have hkp : 0 < k := by omega
          obtain ⟨b', off', e', q0, q1, q2, q3⟩ := ((unhide R).below (unhide hb)).2 (k - 1) hj
          cases e'
          have SC := hide (unhide SC0 (k - 1) hj)
          have E1' := hide (unhide E1 hkp)
          clear SC0 E1 E0
          generalize ds[k - 1] = qd at *
          obtain ⟨qk, qt, qv, qg⟩ := qd
          simp only at q0 q1 q2 q3 SC
          generalize ltV ⟨qk, qt, qv, qg⟩ ⟨pk, pt, pv, pg⟩ = lv at *
          have SK2 := hide (show ∀ u, Below wr.heap.size wr u → (fun u => Below wr.heap.size wr u ∧ u.cell? ⟨b, off + k * 4, none⟩ = some (.string pk) ∧ u.cell? ⟨b, off + k * 4 + 1, none⟩ = some (.int .i64 pt) ∧ u.cell? ⟨b, off + k * 4 + 2, none⟩ = some (.string pv) ∧ u.cell? ⟨b, off + k * 4 + 3, none⟩ = some (.bool pg) ∧ u.cell? ⟨b, off + (k - 1) * 4, none⟩ = some (.string qk) ∧ u.cell? ⟨b, off + (k - 1) * 4 + 1, none⟩ = some (.int .i64 qt) ∧ u.cell? ⟨b, off + (k - 1) * 4 + 2, none⟩ = some (.string qv) ∧ u.cell? ⟨b, off + (k - 1) * 4 + 3, none⟩ = some (.bool qg)) u from fun u hb => by
            obtain ⟨x0, x1, x2, x3, x4⟩ := unhide SK u hb
            exact ⟨x0, x1, x2, x3, x4, (hb.cell (p := ⟨b, off + (k - 1) * 4, none⟩) (cell_lt q0)).trans q0, (hb.cell (p := ⟨b, off + (k - 1) * 4 + 1, none⟩) (cell_lt q1)).trans q1, (hb.cell (p := ⟨b, off + (k - 1) * 4 + 2, none⟩) (cell_lt q2)).trans q2, (hb.cell (p := ⟨b, off + (k - 1) * 4 + 3, none⟩) (cell_lt q3)).trans q3⟩)
          have hi1 : ((k : Int) - 1).toNat = k - 1 := by omega
          have hd1 : decide (0 < k) = true := decide_eq_true hkp
          have hd2 : decide ((0 : Int) < (k : Int)) = true := decide_eq_true (by omega)
          have hi2 : (0 : Int) ≤ (k : Int) - 1 := by omega
          have hi4 : (1 : Int) ≤ (k : Int) := by omega
          have hwr : IntKind.i64.wrap ((k : Int) - 1) = (k : Int) - 1 := by rw [IntKind.wrap_i64]; omega
          have hi3 : (k : Int) - 1 < (n : Int) := by omega
          clear q0 q1 q2 q3
          cases lv
          · have Z := hide (show okVs ds = false by
              have := unhide ST false (by rw [unhide E1']; rfl)
              simpa using this)
            clear E1'
            refine wp_region_held_drew (S := (fun u => Below wr.heap.size wr u ∧ u.cell? ⟨b, off + k * 4, none⟩ = some (.string pk) ∧ u.cell? ⟨b, off + k * 4 + 1, none⟩ = some (.int .i64 pt) ∧ u.cell? ⟨b, off + k * 4 + 2, none⟩ = some (.string pv) ∧ u.cell? ⟨b, off + k * 4 + 3, none⟩ = some (.bool pg) ∧ u.cell? ⟨b, off + (k - 1) * 4, none⟩ = some (.string qk) ∧ u.cell? ⟨b, off + (k - 1) * 4 + 1, none⟩ = some (.int .i64 qt) ∧ u.cell? ⟨b, off + (k - 1) * 4 + 2, none⟩ = some (.string qv) ∧ u.cell? ⟨b, off + (k - 1) * 4 + 3, none⟩ = some (.bool qg))) (by kernel_rfl) (unhide SK2 _ G0) (fun hHeld => ?_)
            refine anyH_take 0 10 (v := ?v19) rfl rfl (by kernel_rfl) (by kernel_rfl) (by kernel_rfl) (fun _ _ _ h => h) (by rfl) ?h19 hHeld ?r19
            case h19 => (intro w hSw; (try dsimp only at hSw); go_simp; try (with_reducible rfl))
            simp only [Act.put, List.setIfInBounds_toArray, List.set_cons_zero, List.set_cons_succ]
            refine anyH_take 1 11 (v := ?v20) rfl rfl (by kernel_rfl) (by kernel_rfl) (by kernel_rfl) (fun _ _ _ h => h) (by rfl) ?h20 hHeld ?r20
            case h20 => (intro w hSw; (try dsimp only at hSw); go_simp; try (with_reducible rfl))
            simp only [Act.put, List.setIfInBounds_toArray, List.set_cons_zero, List.set_cons_succ]
            refine anyH_take 2 12 (v := ?v21) rfl rfl (by kernel_rfl) (by kernel_rfl) (by kernel_rfl) (fun _ _ _ h => h) (by rfl) ?h21 hHeld ?r21
            case h21 => (intro w hSw; (try dsimp only at hSw); go_simp; try (with_reducible rfl))
            simp only [Act.put, List.setIfInBounds_toArray, List.set_cons_zero, List.set_cons_succ]
            refine anyH_take 3 13 (v := ?v22) rfl rfl (by kernel_rfl) (by kernel_rfl) (by kernel_rfl) (fun _ _ _ h => h) (by rfl) ?h22 hHeld ?r22
            case h22 => (intro w hSw; (try dsimp only at hSw); go_simp; try (with_reducible rfl))
            simp only [Act.put, List.setIfInBounds_toArray, List.set_cons_zero, List.set_cons_succ]
            refine wpAnyH_ready (rs := [4]) (by kernel_rfl) (by simp) ?_
            refine AllReadyH.cons rfl (fun K hK => ?_) AllReadyH.nil
            go_simp
            refine (unhide SV _ G0).mono ?_
            rintro e w2 ⟨rfl, b2⟩
            refine hK.out _ _ (unhide SK2 _ b2) (fun hHeld => ?_)
            clear hK K
            refine anyH_take 5 15 (v := ?v23) rfl rfl (by kernel_rfl) (by kernel_rfl) (by kernel_rfl) (fun _ _ _ h => h) (by rfl) ?h23 hHeld ?r23
            case h23 => (intro w hSw; (try dsimp only at hSw); go_simp; try (with_reducible rfl))
            simp only [Act.put, List.setIfInBounds_toArray, List.set_cons_zero, List.set_cons_succ]
            refine anyH_take 6 16 (v := ?v24) rfl rfl (by kernel_rfl) (by kernel_rfl) (by kernel_rfl) (fun _ _ _ h => h) (by rfl) ?h24 hHeld ?r24
            case h24 => (intro w hSw; (try dsimp only at hSw); go_simp; try (with_reducible rfl))
            simp only [Act.put, List.setIfInBounds_toArray, List.set_cons_zero, List.set_cons_succ]
            refine anyH_take 7 17 (v := ?v25) rfl rfl (by kernel_rfl) (by kernel_rfl) (by kernel_rfl) (fun _ _ _ h => h) (by rfl) ?h25 hHeld ?r25
            case h25 => (intro w hSw; (try dsimp only at hSw); go_simp; try (with_reducible rfl))
            simp only [Act.put, List.setIfInBounds_toArray, List.set_cons_zero, List.set_cons_succ]
            refine anyH_take 8 18 (v := ?v26) rfl rfl (by kernel_rfl) (by kernel_rfl) (by kernel_rfl) (fun _ _ _ h => h) (by rfl) ?h26 hHeld ?r26
            case h26 => (intro w hSw; (try dsimp only at hSw); go_simp; try (with_reducible rfl))
            simp only [Act.put, List.setIfInBounds_toArray, List.set_cons_zero, List.set_cons_succ]
            refine anyH_take 9 19 (v := ?v27) rfl rfl (by kernel_rfl) (by kernel_rfl) (by kernel_rfl) (fun _ _ _ h => h) (by rfl) ?h27 hHeld ?r27
            case h27 => (intro w hSw; (try dsimp only at hSw); go_simp; try (with_reducible rfl))
            simp only [Act.put, List.setIfInBounds_toArray, List.set_cons_zero, List.set_cons_succ]
            refine anyH_take 10 20 (v := ?v28) rfl rfl (by kernel_rfl) (by kernel_rfl) (by kernel_rfl) (fun _ _ _ h => h) (by rfl) ?h28 hHeld ?r28
            case h28 => (intro w hSw; (try dsimp only at hSw); go_simp; try (with_reducible rfl))
            simp only [Act.put, List.setIfInBounds_toArray, List.set_cons_zero, List.set_cons_succ]
            refine anyH_take 11 21 (v := ?v29) rfl rfl (by kernel_rfl) (by kernel_rfl) (by kernel_rfl) (fun _ _ _ h => h) (by rfl) ?h29 hHeld ?r29
            case h29 => (intro w hSw; (try dsimp only at hSw); go_simp; try (with_reducible rfl))
            simp only [Act.put, List.setIfInBounds_toArray, List.set_cons_zero, List.set_cons_succ]
            refine anyH_take 12 22 (v := ?v30) rfl rfl (by kernel_rfl) (by kernel_rfl) (by kernel_rfl) (fun _ _ _ h => h) (by rfl) ?h30 hHeld ?r30
            case h30 => (intro w hSw; (try dsimp only at hSw); go_simp; try (with_reducible rfl))
            simp only [Act.put, List.setIfInBounds_toArray, List.set_cons_zero, List.set_cons_succ]
            refine anyH_take 13 23 (v := ?v31) rfl rfl (by kernel_rfl) (by kernel_rfl) (by kernel_rfl) (fun _ _ _ h => h) (by rfl) ?h31 hHeld ?r31
            case h31 => (intro w hSw; (try dsimp only at hSw); go_simp; try (with_reducible rfl))
            simp only [Act.put, List.setIfInBounds_toArray, List.set_cons_zero, List.set_cons_succ]
            refine anyH_take 14 24 (v := ?v32) rfl rfl (by kernel_rfl) (by kernel_rfl) (by kernel_rfl) (fun _ _ _ h => h) (by rfl) ?h32 hHeld ?r32
            case h32 => (intro w hSw; (try dsimp only at hSw); go_simp; try (with_reducible rfl))
            simp only [Act.put, List.setIfInBounds_toArray, List.set_cons_zero, List.set_cons_succ]
            refine anyH_take 15 25 (v := ?v33) rfl rfl (by kernel_rfl) (by kernel_rfl) (by kernel_rfl) (fun _ _ _ h => h) (by rfl) ?h33 hHeld ?r33
            case h33 => (intro w hSw; (try dsimp only at hSw); go_simp; try (with_reducible rfl))
            simp only [Act.put, List.setIfInBounds_toArray, List.set_cons_zero, List.set_cons_succ]
            refine anyH_take 16 26 (v := ?v34) rfl rfl (by kernel_rfl) (by kernel_rfl) (by kernel_rfl) (fun _ _ _ h => h) (by rfl) ?h34 hHeld ?r34
            case h34 => (intro w hSw; (try dsimp only at hSw); go_simp; try (with_reducible rfl))
            simp only [Act.put, List.setIfInBounds_toArray, List.set_cons_zero, List.set_cons_succ]
            refine anyH_take 17 27 (v := ?v35) rfl rfl (by kernel_rfl) (by kernel_rfl) (by kernel_rfl) (fun _ _ _ h => h) (by rfl) ?h35 hHeld ?r35
            case h35 => (intro w hSw; (try dsimp only at hSw); go_simp; try (with_reducible rfl))
            simp only [Act.put, List.setIfInBounds_toArray, List.set_cons_zero, List.set_cons_succ]
            refine anyH_take 18 28 (v := ?v36) rfl rfl (by kernel_rfl) (by kernel_rfl) (by kernel_rfl) (fun _ _ _ h => h) (by rfl) ?h36 hHeld ?r36
            case h36 => (intro w hSw; (try dsimp only at hSw); go_simp; try (with_reducible rfl))
            simp only [Act.put, List.setIfInBounds_toArray, List.set_cons_zero, List.set_cons_succ]
            refine wpAnyH_ready (rs := [19]) (by kernel_rfl) (by simp) ?_
            refine AllReadyH.cons rfl (fun K hK => ?_) AllReadyH.nil
            go_simp
            refine (unhide SC _ b2).mono ?_
            rintro e w3 ⟨rfl, b3⟩
            refine hK.out _ _ (unhide SK2 _ b3) (fun hHeld => ?_)
            clear hK K
            refine anyH_take 20 30 (v := ?v37) rfl rfl (by kernel_rfl) (by kernel_rfl) (by kernel_rfl) (fun _ _ _ h => h) (by rfl) ?h37 hHeld ?r37
            case h37 => (intro w hSw; (try dsimp only at hSw); go_simp; try (with_reducible rfl))
            simp only [Act.put, List.setIfInBounds_toArray, List.set_cons_zero, List.set_cons_succ]
            refine anyH_take 21 31 (v := ?v38) rfl rfl (by kernel_rfl) (by kernel_rfl) (by kernel_rfl) (fun _ _ _ h => h) (by rfl) ?h38 hHeld ?r38
            case h38 => (intro w hSw; (try dsimp only at hSw); go_simp; try (with_reducible rfl))
            simp only [Act.put, List.setIfInBounds_toArray, List.set_cons_zero, List.set_cons_succ]
            refine anyH_take 22 32 (v := ?v39) rfl rfl (by kernel_rfl) (by kernel_rfl) (by kernel_rfl) (fun _ _ _ h => h) (by rfl) ?h39 hHeld ?r39
            case h39 => (intro w hSw; (try dsimp only at hSw); go_simp; try (with_reducible rfl))
            simp only [Act.put, List.setIfInBounds_toArray, List.set_cons_zero, List.set_cons_succ]
            refine wpAnyH_done (by kernel_rfl) ?_ _
            have BF := unhide BE _ b3
            go_wp2_with fail
            go_ret
            exact ⟨ret_bool (unhide Z).symm, BF⟩
          · have Z := hide (show ∀ i, i < k + 1 → okAtV ds i = true by
              have := unhide ST true (by rw [unhide E1']; rfl)
              simpa using this)
            clear E1'
            refine wp_region_held_drew (S := (fun u => Below wr.heap.size wr u ∧ u.cell? ⟨b, off + k * 4, none⟩ = some (.string pk) ∧ u.cell? ⟨b, off + k * 4 + 1, none⟩ = some (.int .i64 pt) ∧ u.cell? ⟨b, off + k * 4 + 2, none⟩ = some (.string pv) ∧ u.cell? ⟨b, off + k * 4 + 3, none⟩ = some (.bool pg) ∧ u.cell? ⟨b, off + (k - 1) * 4, none⟩ = some (.string qk) ∧ u.cell? ⟨b, off + (k - 1) * 4 + 1, none⟩ = some (.int .i64 qt) ∧ u.cell? ⟨b, off + (k - 1) * 4 + 2, none⟩ = some (.string qv) ∧ u.cell? ⟨b, off + (k - 1) * 4 + 3, none⟩ = some (.bool qg))) (by kernel_rfl) (unhide SK2 _ G0) (fun hHeld => ?_)
            refine anyH_take 0 10 (v := ?v40) rfl rfl (by kernel_rfl) (by kernel_rfl) (by kernel_rfl) (fun _ _ _ h => h) (by rfl) ?h40 hHeld ?r40
            case h40 => (intro w hSw; (try dsimp only at hSw); go_simp; try (with_reducible rfl))
            simp only [Act.put, List.setIfInBounds_toArray, List.set_cons_zero, List.set_cons_succ]
            refine anyH_take 1 11 (v := ?v41) rfl rfl (by kernel_rfl) (by kernel_rfl) (by kernel_rfl) (fun _ _ _ h => h) (by rfl) ?h41 hHeld ?r41
            case h41 => (intro w hSw; (try dsimp only at hSw); go_simp; try (with_reducible rfl))
            simp only [Act.put, List.setIfInBounds_toArray, List.set_cons_zero, List.set_cons_succ]
            refine anyH_take 2 12 (v := ?v42) rfl rfl (by kernel_rfl) (by kernel_rfl) (by kernel_rfl) (fun _ _ _ h => h) (by rfl) ?h42 hHeld ?r42
            case h42 => (intro w hSw; (try dsimp only at hSw); go_simp; try (with_reducible rfl))
            simp only [Act.put, List.setIfInBounds_toArray, List.set_cons_zero, List.set_cons_succ]
            refine anyH_take 3 13 (v := ?v43) rfl rfl (by kernel_rfl) (by kernel_rfl) (by kernel_rfl) (fun _ _ _ h => h) (by rfl) ?h43 hHeld ?r43
            case h43 => (intro w hSw; (try dsimp only at hSw); go_simp; try (with_reducible rfl))
            simp only [Act.put, List.setIfInBounds_toArray, List.set_cons_zero, List.set_cons_succ]
            refine wpAnyH_ready (rs := [4]) (by kernel_rfl) (by simp) ?_
            refine AllReadyH.cons rfl (fun K hK => ?_) AllReadyH.nil
            go_simp
            refine (unhide SV _ G0).mono ?_
            rintro e w2 ⟨rfl, b2⟩
            refine hK.out _ _ (unhide SK2 _ b2) (fun hHeld => ?_)
            clear hK K
            refine anyH_take 5 15 (v := ?v44) rfl rfl (by kernel_rfl) (by kernel_rfl) (by kernel_rfl) (fun _ _ _ h => h) (by rfl) ?h44 hHeld ?r44
            case h44 => (intro w hSw; (try dsimp only at hSw); go_simp; try (with_reducible rfl))
            simp only [Act.put, List.setIfInBounds_toArray, List.set_cons_zero, List.set_cons_succ]
            refine anyH_take 6 16 (v := ?v45) rfl rfl (by kernel_rfl) (by kernel_rfl) (by kernel_rfl) (fun _ _ _ h => h) (by rfl) ?h45 hHeld ?r45
            case h45 => (intro w hSw; (try dsimp only at hSw); go_simp; try (with_reducible rfl))
            simp only [Act.put, List.setIfInBounds_toArray, List.set_cons_zero, List.set_cons_succ]
            refine anyH_take 7 17 (v := ?v46) rfl rfl (by kernel_rfl) (by kernel_rfl) (by kernel_rfl) (fun _ _ _ h => h) (by rfl) ?h46 hHeld ?r46
            case h46 => (intro w hSw; (try dsimp only at hSw); go_simp; try (with_reducible rfl))
            simp only [Act.put, List.setIfInBounds_toArray, List.set_cons_zero, List.set_cons_succ]
            refine anyH_take 8 18 (v := ?v47) rfl rfl (by kernel_rfl) (by kernel_rfl) (by kernel_rfl) (fun _ _ _ h => h) (by rfl) ?h47 hHeld ?r47
            case h47 => (intro w hSw; (try dsimp only at hSw); go_simp; try (with_reducible rfl))
            simp only [Act.put, List.setIfInBounds_toArray, List.set_cons_zero, List.set_cons_succ]
            refine anyH_take 9 19 (v := ?v48) rfl rfl (by kernel_rfl) (by kernel_rfl) (by kernel_rfl) (fun _ _ _ h => h) (by rfl) ?h48 hHeld ?r48
            case h48 => (intro w hSw; (try dsimp only at hSw); go_simp; try (with_reducible rfl))
            simp only [Act.put, List.setIfInBounds_toArray, List.set_cons_zero, List.set_cons_succ]
            refine anyH_take 10 20 (v := ?v49) rfl rfl (by kernel_rfl) (by kernel_rfl) (by kernel_rfl) (fun _ _ _ h => h) (by rfl) ?h49 hHeld ?r49
            case h49 => (intro w hSw; (try dsimp only at hSw); go_simp; try (with_reducible rfl))
            simp only [Act.put, List.setIfInBounds_toArray, List.set_cons_zero, List.set_cons_succ]
            refine anyH_take 11 21 (v := ?v50) rfl rfl (by kernel_rfl) (by kernel_rfl) (by kernel_rfl) (fun _ _ _ h => h) (by rfl) ?h50 hHeld ?r50
            case h50 => (intro w hSw; (try dsimp only at hSw); go_simp; try (with_reducible rfl))
            simp only [Act.put, List.setIfInBounds_toArray, List.set_cons_zero, List.set_cons_succ]
            refine anyH_take 12 22 (v := ?v51) rfl rfl (by kernel_rfl) (by kernel_rfl) (by kernel_rfl) (fun _ _ _ h => h) (by rfl) ?h51 hHeld ?r51
            case h51 => (intro w hSw; (try dsimp only at hSw); go_simp; try (with_reducible rfl))
            simp only [Act.put, List.setIfInBounds_toArray, List.set_cons_zero, List.set_cons_succ]
            refine anyH_take 13 23 (v := ?v52) rfl rfl (by kernel_rfl) (by kernel_rfl) (by kernel_rfl) (fun _ _ _ h => h) (by rfl) ?h52 hHeld ?r52
            case h52 => (intro w hSw; (try dsimp only at hSw); go_simp; try (with_reducible rfl))
            simp only [Act.put, List.setIfInBounds_toArray, List.set_cons_zero, List.set_cons_succ]
            refine anyH_take 14 24 (v := ?v53) rfl rfl (by kernel_rfl) (by kernel_rfl) (by kernel_rfl) (fun _ _ _ h => h) (by rfl) ?h53 hHeld ?r53
            case h53 => (intro w hSw; (try dsimp only at hSw); go_simp; try (with_reducible rfl))
            simp only [Act.put, List.setIfInBounds_toArray, List.set_cons_zero, List.set_cons_succ]
            refine anyH_take 15 25 (v := ?v54) rfl rfl (by kernel_rfl) (by kernel_rfl) (by kernel_rfl) (fun _ _ _ h => h) (by rfl) ?h54 hHeld ?r54
            case h54 => (intro w hSw; (try dsimp only at hSw); go_simp; try (with_reducible rfl))
            simp only [Act.put, List.setIfInBounds_toArray, List.set_cons_zero, List.set_cons_succ]
            refine anyH_take 16 26 (v := ?v55) rfl rfl (by kernel_rfl) (by kernel_rfl) (by kernel_rfl) (fun _ _ _ h => h) (by rfl) ?h55 hHeld ?r55
            case h55 => (intro w hSw; (try dsimp only at hSw); go_simp; try (with_reducible rfl))
            simp only [Act.put, List.setIfInBounds_toArray, List.set_cons_zero, List.set_cons_succ]
            refine anyH_take 17 27 (v := ?v56) rfl rfl (by kernel_rfl) (by kernel_rfl) (by kernel_rfl) (fun _ _ _ h => h) (by rfl) ?h56 hHeld ?r56
            case h56 => (intro w hSw; (try dsimp only at hSw); go_simp; try (with_reducible rfl))
            simp only [Act.put, List.setIfInBounds_toArray, List.set_cons_zero, List.set_cons_succ]
            refine anyH_take 18 28 (v := ?v57) rfl rfl (by kernel_rfl) (by kernel_rfl) (by kernel_rfl) (fun _ _ _ h => h) (by rfl) ?h57 hHeld ?r57
            case h57 => (intro w hSw; (try dsimp only at hSw); go_simp; try (with_reducible rfl))
            simp only [Act.put, List.setIfInBounds_toArray, List.set_cons_zero, List.set_cons_succ]
            refine wpAnyH_ready (rs := [19]) (by kernel_rfl) (by simp) ?_
            refine AllReadyH.cons rfl (fun K hK => ?_) AllReadyH.nil
            go_simp
            refine (unhide SC _ b2).mono ?_
            rintro e w3 ⟨rfl, b3⟩
            refine hK.out _ _ (unhide SK2 _ b3) (fun hHeld => ?_)
            clear hK K
            refine anyH_take 20 30 (v := ?v58) rfl rfl (by kernel_rfl) (by kernel_rfl) (by kernel_rfl) (fun _ _ _ h => h) (by rfl) ?h58 hHeld ?r58
            case h58 => (intro w hSw; (try dsimp only at hSw); go_simp; try (with_reducible rfl))
            simp only [Act.put, List.setIfInBounds_toArray, List.set_cons_zero, List.set_cons_succ]
            refine anyH_take 21 31 (v := ?v59) rfl rfl (by kernel_rfl) (by kernel_rfl) (by kernel_rfl) (fun _ _ _ h => h) (by rfl) ?h59 hHeld ?r59
            case h59 => (intro w hSw; (try dsimp only at hSw); go_simp; try (with_reducible rfl))
            simp only [Act.put, List.setIfInBounds_toArray, List.set_cons_zero, List.set_cons_succ]
            refine anyH_take 22 32 (v := ?v60) rfl rfl (by kernel_rfl) (by kernel_rfl) (by kernel_rfl) (fun _ _ _ h => h) (by rfl) ?h60 hHeld ?r60
            case h60 => (intro w hSw; (try dsimp only at hSw); go_simp; try (with_reducible rfl))
            simp only [Act.put, List.setIfInBounds_toArray, List.set_cons_zero, List.set_cons_succ]
            refine wpAnyH_done (by kernel_rfl) ?_ _
            have BF := unhide BE _ b3
            go_wp2_with fail
            go_roundw
            case rel => exact ⟨k + 1, by omega, by go_num, unhide Z, BF⟩
            case measure => simp [intOf]; omega
    · obtain rfl : k = n := by omega
      have Z := hide (show okVs ds = true from okVs_true fun i hi => unhide hok i (by have := unhide L; omega))
      go_wp2_with fail
      go_ret
      exact ⟨ret_bool (unhide Z).symm, unhide hb⟩
end Go.Proofs.YtfajenejngddeaaGreat

namespace Go.Proofs.YtfajenejngddeaaGreat
open Go.RowKit Go.Maps

/-- An append whose run is known. -/
theorem ky_wpApp {P : Program} {ops : Array Oper} {rest : List Oper} {o : Oper} {a : Act} {w : World} {Q : Exit → Act → World → Prop}
    (hg : o.guard = none) (s x : Operand) (t : TypeId) (hop : o.op = Op.call { callee := Callee.builtin Builtin.append, args := #[s, x], argTypes := #[t, t] })
    (vs vx v' : Value) (w' : World) (hs : a.eval s = vs) (hx : a.eval x = vx) (hrun : (Builtin.append_ #[t, t] o.type #[vs, vx]).run P w = .ok v' w') (h : wpList P ops Q rest (a.put o.dst v') w') :
    wpList P ops Q (o :: rest) a w :=
  wpList_plain hg fun _ hK => by
    unfold Oper.wp
    simp [execOp, hop, resolve, invoke, builtin, hs, hx, hrun, Result.andThen]
    exact hK _ _ h
end Go.Proofs.YtfajenejngddeaaGreat

namespace Go.Proofs.YtfajenejngddeaaGreat
open Go.RowKit

theorem app_at {P : Program} {w : World} {B : Nat} (t ty e : TypeId) {i : TypeInfo} {z : Value} {size bytes : Nat} (ht : P.underlying t = some (.slice e)) (hi : P.info? e = some i) (hz : i.zero = some z)
    (hsize : i.size = size) (hby : i.bytes = bytes) (hzs : z.cells.size = size) (hsz : 0 < size)
    {v : Value} {n : Nat} {xs : List Value} (hown : w.ownsRow B e size v n xs)
    (a : Addr) (m c : Nat) (news : List Value) (hl : news.length = m * size) (hnews : ∀ j u, news[j]? = some u → w.cell? (a.add j) = some u) (h1 : ∀ u ∈ news, u.oneCell' = true)
    (h63 : n + m ≤ maxLen) (hbytes : (n + m) * bytes ≤ 140737488355328) (hbase : B ≤ w.heap.size) (hm : v = .slice none 0 0 → 0 < m) :
    ∃ v' w', (Builtin.append_ #[t, t] ty #[v, .slice (some a) m c]).run P w = .ok v' w' ∧ w'.ownsRow B e size v' (n + m) (xs ++ news) ∧ w.grownBy w' v.ownBlock ∧ v' ≠ .slice none 0 0 ∧ (v'.ownBlock = v.ownBlock ∨ v'.ownBlock = some w.heap.size) := by
  obtain ⟨v', w', hr, ho', hg, hnil⟩ := run_append_own (P := P) (w := w) B t ty e i z size bytes ht hi hz hsize hby hzs hsz v n xs hown a m c news hl hnews h1 h63 hbytes hbase
  refine ⟨v', w', hr, ho', hg, fun e => by have h1 := hnil.1 e; have := hm h1.1; omega, ?_⟩
  subst hsize
  subst hby
  unfold maxLen at h63
  have hbm : m * i.bytes ≤ (n + m) * i.bytes := Nat.mul_le_mul_right _ (by omega)
  rcases hown.2 with ⟨rfl, h0⟩ | ⟨g', cap', cur, rfl, hbg, hgg, hnc, hcm, hcs, htake⟩
  · have h := run_append_nil (P := P) (w := w) t ty e i z ht hi hz a m c news hl hnews (hm rfl) (by omega) (by omega)
    rw [hr] at h
    injection h with h _
    subst h
    exact .inr rfl
  · by_cases hroom : n + m ≤ cap'
    · have hk : n * i.size + m * i.size ≤ cap' * i.size := by rw [← Nat.add_mul]; exact Nat.mul_le_mul_right _ hroom
      have h := run_append_room (P := P) (w := w) t ty e i ht hi g' n cap' cur hgg a m c news hl hnews h1 hroom (by rw [hcs, hl]; exact hk)
      rw [hr] at h
      injection h with h _
      subst h
      exact .inl rfl
    · have h := run_append_grow (P := P) (w := w) t ty e i z ht hi hz ⟨g', 0, none⟩ n cap' xs hown.1 (fun j u hu => by
          have hj : j < n * i.size := by rw [← hown.1]; exact (List.getElem?_eq_some_iff.1 hu).1
          have e2 : (⟨g', 0, none⟩ : Addr).add j = ⟨g', j, none⟩ := by unfold Addr.add; split <;> simp_all
          rw [e2, hown.cellAt j hj, hu]) a m c news hl hnews (by omega) (by omega) (growslice_fits (by omega) hbytes)
      rw [hr] at h
      injection h with h _
      subst h
      exact .inr rfl
end Go.Proofs.YtfajenejngddeaaGreat

namespace Go.Proofs.YtfajenejngddeaaGreat
open Go.RowKit

/-- What a slice has, appended to a row of the call's own that is not nil. -/
theorem app_src {P : Program} {w : World} {B : Nat} (t ty e : TypeId) {i : TypeInfo} {z : Value} {size bytes : Nat} (ht : P.underlying t = some (.slice e)) (hi : P.info? e = some i) (hz : i.zero = some z)
    (hsize : i.size = size) (hby : i.bytes = bytes) (hzs : z.cells.size = size) (hsz : 0 < size)
    {v : Value} {n : Nat} {xs : List Value} (hown : w.ownsRow B e size v n xs) (hv : v ≠ .slice none 0 0)
    (a : Option Addr) (m c : Nat) (news : List Value) (hl : news.length = m * size) (hnews : ∀ A, a = some A → ∀ j u, news[j]? = some u → w.cell? (A.add j) = some u) (hc : a = none → m = 0 ∧ c = 0) (h1 : ∀ u ∈ news, u.oneCell' = true)
    (h63 : n + m ≤ maxLen) (hbytes : (n + m) * bytes ≤ 140737488355328) (hbase : B ≤ w.heap.size) :
    ∃ v' w', (Builtin.append_ #[t, t] ty #[v, .slice a m c]).run P w = .ok v' w' ∧ w'.ownsRow B e size v' (n + m) (xs ++ news) ∧ w.grownBy w' v.ownBlock ∧ v' ≠ .slice none 0 0 ∧ (v'.ownBlock = v.ownBlock ∨ v'.ownBlock = some w.heap.size) := by
  cases a with
  | none =>
    obtain ⟨rfl, rfl⟩ := hc rfl
    obtain rfl : news = [] := List.eq_nil_of_length_eq_zero (by rw [hl]; simp)
    rw [List.append_nil, Nat.add_zero]
    subst hsize
    exact ⟨v, w, run_append_owned_none (P := P) w B t ty e i i.size ht hi _ _ _ hown, hown, ⟨rfl, rfl, rfl, Nat.le_refl _, fun _ _ _ => rfl⟩, hv, .inl rfl⟩
  | some A => exact app_at t ty e ht hi hz hsize hby hzs hsz hown A m c news hl (hnews A rfl) h1 h63 hbytes hbase (fun h => absurd h hv)
theorem vrow_src {w : World} {A : Addr} {n : Nat} {ds : List VerD} (h : VRow w (some A) n ds) : ∀ t u, (vcs ds)[t]? = some u → w.cell? (A.add t) = some u := by
  intro t u hu
  have hl : t < ds.length * 4 := by
    have := (List.getElem?_eq_some_iff.1 hu).1
    rwa [vcs_len] at this
  obtain ⟨m, r, hr, rfl⟩ : ∃ m r, r < 4 ∧ t = m * 4 + r := ⟨t / 4, t % 4, Nat.mod_lt _ (by omega), by omega⟩
  have hm : m < ds.length := by omega
  obtain ⟨b, off, e, c0, c1, c2, c3⟩ := h.2 m hm
  injection e with e
  subst e
  rw [Addr.add_lit]
  obtain ⟨a0, a1, a2, a3⟩ := vcs_at ds m hm
  match r, hr with
  | 0, _ => rw [Nat.add_zero] at hu ⊢; rw [a0] at hu; rw [c0, ← hu]
  | 1, _ => rw [a1] at hu; rw [← Nat.add_assoc, c1, ← hu]
  | 2, _ => rw [a2] at hu; rw [← Nat.add_assoc, c2, ← hu]
  | 3, _ => rw [a3] at hu; rw [← Nat.add_assoc, c3, ← hu]
theorem frow_src {w : World} {A : Addr} {n : Nat} {ds : List FenD} (h : FRow w (some A) n ds) : ∀ t u, (fcs ds)[t]? = some u → w.cell? (A.add t) = some u := by
  intro t u hu
  have hl : t < ds.length * 3 := by
    have := (List.getElem?_eq_some_iff.1 hu).1
    rwa [fcs_len] at this
  obtain ⟨m, r, hr, rfl⟩ : ∃ m r, r < 3 ∧ t = m * 3 + r := ⟨t / 3, t % 3, Nat.mod_lt _ (by omega), by omega⟩
  have hm : m < ds.length := by omega
  obtain ⟨b, off, e, c0, c1, c2⟩ := h.2 m hm
  injection e with e
  subst e
  rw [Addr.add_lit]
  obtain ⟨a0, a1, a2⟩ := fcs_at ds m hm
  match r, hr with
  | 0, _ => rw [Nat.add_zero] at hu ⊢; rw [a0] at hu; rw [c0, ← hu]
  | 1, _ => rw [a1] at hu; rw [← Nat.add_assoc, c1, ← hu]
  | 2, _ => rw [a2] at hu; rw [← Nat.add_assoc, c2, ← hu]
theorem vrow_none {w : World} {n : Nat} {ds : List VerD} (h : VRow w none n ds) : n = 0 ∧ ds = [] := by
  have h0 : ds.length = 0 := by
    rcases Nat.eq_zero_or_pos ds.length with h' | h'
    · exact h'
    · obtain ⟨_, _, e, _⟩ := h.2 0 h'; cases e
  exact ⟨by have := h.1; omega, List.eq_nil_of_length_eq_zero h0⟩
theorem frow_none {w : World} {n : Nat} {ds : List FenD} (h : FRow w none n ds) : n = 0 ∧ ds = [] := by
  have h0 : ds.length = 0 := by
    rcases Nat.eq_zero_or_pos ds.length with h' | h'
    · exact h'
    · obtain ⟨_, _, e, _⟩ := h.2 0 h'; cases e
  exact ⟨by have := h.1; omega, List.eq_nil_of_length_eq_zero h0⟩
theorem owns_form {w : World} {B e s n : Nat} {v : Value} {cs : List Value} (h : w.ownsRow B e s v n cs) (hv : v ≠ .slice none 0 0) : ∃ g c, v = .slice (some ⟨g, 0, none⟩) n c ∧ B ≤ g ∧ g < w.heap.size ∧ n ≤ c := by
  rcases h.2 with ⟨e, _⟩ | ⟨g, cap, cur, e, hb, hh, hc, _⟩
  · exact absurd e hv
  · exact ⟨g, cap, e, hb, (Array.getElem?_eq_some_iff.1 hh).1, hc⟩
/-- A row of versions appended to another of the call's own. -/
theorem v_appS {w : World} {B : Nat} {v : Value} {ds es : List VerD} {a : Option Addr} {m c : Nat} (ty : TypeId) (ho : VOwns w B v ds) (hv : v ≠ .slice none 0 0) (hr : VRow w a m es) (hc : a = none → c = 0) (hz : ds.length + m ≤ 2000000) (hB : B ≤ w.heap.size) :
    ∃ g k w', (Builtin.append_ #[23, 23] ty #[v, .slice a m c]).run Tryz.prog w = .ok (.slice (some ⟨g, 0, none⟩) (ds.length + m) k) w' ∧ VOwns w' B (.slice (some ⟨g, 0, none⟩) (ds.length + m) k) (ds ++ es) ∧ w.grownBy w' v.ownBlock ∧ (some g = v.ownBlock ∨ g = w.heap.size) := by
  obtain ⟨i0, hi0, hz0, hz1, hz2⟩ := info_parts Tryz.infoVersion
  obtain ⟨v', w', hrun, ho', hg, hnil, loc⟩ := app_src (P := Tryz.prog) (w := w) (B := B) 23 ty 39 Tryz.underlying23 hi0 hz0 hz1 hz2 rfl (by decide) ho hv a m c (vcs es) (by rw [vcs_len, hr.1]) (fun A hA => by subst hA; exact vrow_src hr) (fun h => by subst h; exact ⟨(vrow_none hr).1, hc rfl⟩) (vcs_one _) (by unfold maxLen; omega) (by omega) hB
  obtain ⟨g, k, rfl, _⟩ := owns_form ho' hnil
  refine ⟨g, k, w', hrun, ?_, hg, ?_⟩
  · unfold VOwns
    rw [List.length_append, vcs_append, hr.1]
    exact ho'
  · rcases loc with h | h
    · exact .inl h
    · injection h with h
      exact .inr h
/-- A row of fences appended to another of the call's own. -/
theorem f_appS {w : World} {B : Nat} {v : Value} {ds es : List FenD} {a : Option Addr} {m c : Nat} (ty : TypeId) (ho : FOwns w B v ds) (hv : v ≠ .slice none 0 0) (hr : FRow w a m es) (hc : a = none → c = 0) (hz : ds.length + m ≤ 2000000) (hB : B ≤ w.heap.size) :
    ∃ g k w', (Builtin.append_ #[24, 24] ty #[v, .slice a m c]).run Tryz.prog w = .ok (.slice (some ⟨g, 0, none⟩) (ds.length + m) k) w' ∧ FOwns w' B (.slice (some ⟨g, 0, none⟩) (ds.length + m) k) (ds ++ es) ∧ w.grownBy w' v.ownBlock ∧ (some g = v.ownBlock ∨ g = w.heap.size) := by
  obtain ⟨i0, hi0, hz0, hz1, hz2⟩ := info_parts Tryz.infoFence
  obtain ⟨v', w', hrun, ho', hg, hnil, loc⟩ := app_src (P := Tryz.prog) (w := w) (B := B) 24 ty 90 Tryz.underlying24 hi0 hz0 hz1 hz2 rfl (by decide) ho hv a m c (fcs es) (by rw [fcs_len, hr.1]) (fun A hA => by subst hA; exact frow_src hr) (fun h => by subst h; exact ⟨(frow_none hr).1, hc rfl⟩) (fcs_one _) (by unfold maxLen; omega) (by omega) hB
  obtain ⟨g, k, rfl, _⟩ := owns_form ho' hnil
  refine ⟨g, k, w', hrun, ?_, hg, ?_⟩
  · unfold FOwns
    rw [List.length_append, fcs_append, hr.1]
    exact ho'
  · rcases loc with h | h
    · exact .inl h
    · injection h with h
      exact .inr h
theorem vrow_one (w : World) (d : VerD) : VRow (w.alloc (.cells #[.string d.k, .int .i64 d.t, .string d.v, .bool d.g] 39)) (some ⟨w.heap.size, 0, none⟩) 1 [d] := by
  refine ⟨rfl, fun i hi => ⟨w.heap.size, 0, rfl, ?_⟩⟩
  obtain rfl : i = 0 := by simpa using hi
  simp
theorem frow_one (w : World) (d : FenD) : FRow (w.alloc (.cells #[.string d.f, .string d.u, .int .i64 d.t] 90)) (some ⟨w.heap.size, 0, none⟩) 1 [d] := by
  refine ⟨rfl, fun i hi => ⟨w.heap.size, 0, rfl, ?_⟩⟩
  obtain rfl : i = 0 := by simpa using hi
  simp
end Go.Proofs.YtfajenejngddeaaGreat

namespace Go.Proofs.YtfajenejngddeaaGreat
open Go.RowKit

end Go.Proofs.YtfajenejngddeaaGreat

namespace Go.Proofs.YtfajenejngddeaaGreat
open Go.RowKit

theorem sbAt_snoc {es : List El} {e : El} {i a : Nat} {x : Sb} (h : sbAt (es ++ [e]) i a = some x) : (i < es.length ∧ sbAt es i a = some x) ∨ (i = es.length ∧ e.sb[a]? = some x) := by
  unfold sbAt at h
  by_cases hi : i < es.length
  · rw [List.getElem?_append_left hi] at h
    exact .inl ⟨hi, h⟩
  · by_cases he : i = es.length
    · subst he
      rw [List.getElem?_append_right (Nat.le_refl _), Nat.sub_self] at h
      exact .inr ⟨rfl, h⟩
    · rw [List.getElem?_append_right (by omega), List.getElem?_eq_none (by simp; omega)] at h
      cases h
/-- A record appended: its rows lie apart. -/
theorem NOwn.app {w : World} {B T S n C : Nat} {v : Value} {es : List El} {e : El} (ty : TypeId) {i0 : TypeInfo} {z : Value} {by_ : Nat} (hu : Tryz.prog.underlying ty = some (.slice T)) (hi0 : Tryz.prog.info? T = some i0) (hz0 : i0.zero = some z) (hz1 : i0.size = S) (hz2 : i0.bytes = by_) (hzs : z.cells.size = S) (hS : 0 < S) (hby : by_ ≤ 1000)
    (ho : NOwn w B T S v n es) (hw : e.hd.length = S) (h1 : ∀ u ∈ e.hd, u.oneCell' = true) (hd : ∀ x ∈ e.sb, w.ownsRow C x.t x.s x.v x.n x.cs) (hC : ∀ i, NBl v es i → i < C) (hBC : B ≤ C)
    (hf : ∀ (a b : Nat) (x y : Sb), e.sb[a]? = some x → e.sb[b]? = some y → a ≠ b → ∀ g, x.v.ownBlock = some g → y.v.ownBlock ≠ some g) (hz : n ≤ 900000) (hB : B ≤ w.heap.size) :
    ∃ v' w', (Builtin.append_ #[ty, ty] ty #[v, .slice (some ⟨w.heap.size, 0, none⟩) 1 1]).run Tryz.prog (w.alloc (.cells e.hd.toArray T)) = .ok v' w' ∧ NOwn w' B T S v' (n + 1) (es ++ [e]) ∧ (w.alloc (.cells e.hd.toArray T)).grownBy w' v.ownBlock ∧ v' ≠ .slice none 0 0 := by
  obtain ⟨W, hW⟩ : ∃ W, W = w.alloc (.cells e.hd.toArray T) := ⟨_, rfl⟩
  have bA : Below w.heap.size w W := by rw [hW]; exact (Below.refl _ _).alloc (Nat.le_refl _) _
  have zW : W.heap.size = w.heap.size + 1 := by rw [hW]; simp
  have hcells : ∀ j u, e.hd[j]? = some u → W.cell? ((⟨w.heap.size, 0, none⟩ : Addr).add j) = some u := fun j u hu => by
    have e2 : (⟨w.heap.size, 0, none⟩ : Addr).add j = ⟨w.heap.size, j, none⟩ := by unfold Addr.add; split <;> simp_all
    rw [e2, hW]
    exact rb_cell_new rfl (by simpa using hu)
  have hoa := ho.below bA
  rw [← hW]
  have hbb : (n + 1) * by_ ≤ 900001 * 1000 := Nat.mul_le_mul (by omega) hby
  obtain ⟨v', w', hrun, ho', hg, hn, hloc⟩ := app_at (P := Tryz.prog) (w := W) (B := B) ty ty T hu hi0 hz0 hz1 hz2 hzs hS hoa.row ⟨w.heap.size, 0, none⟩ 1 1 e.hd (by rw [hw]; omega) hcells h1 (by unfold maxLen; omega) (by omega) (by omega) (fun _ => by omega)
  have hwr := WrB.of_grown hg
  have up : ∀ (k b : Nat) (y : Sb), sbAt es k b = some y → ∀ g, y.v.ownBlock = some g → g < C := fun k b y hy g hg => hC g (.inr ⟨k, b, y, hy, hg⟩)
  have lo : ∀ (b : Nat) (y : Sb), e.sb[b]? = some y → ∀ g, y.v.ownBlock = some g → C ≤ g ∧ g < w.heap.size := fun b y hy g hg => (hd y (List.mem_of_getElem? hy)).lt g hg
  refine ⟨v', w', hrun, ⟨?_, by rw [List.length_append, ho.len]; rfl, fun y hy => ?_, fun k b y hy => ?_, fun k l b d y z hy hz hne => ?_, fun k b y hy g h1 h2 => ?_⟩, hg, hn⟩
  · rw [List.flatMap_append, List.flatMap_cons, List.flatMap_nil, List.append_nil]
    exact ho'
  · rcases List.mem_append.1 hy with hy | hy
    · exact ho.wid y hy
    · rw [List.mem_singleton.1 hy]; exact hw
  · rcases sbAt_snoc hy with ⟨_, hy⟩ | ⟨_, hy⟩
    · exact rr_owns_wr (hoa.dat k b y hy) hwr (fun q hq e => hoa.off k b y hy q e hq)
    · exact gd_base (rr_owns_wr (rb_ownsRow_below (hd y (List.mem_of_getElem? hy)) bA) hwr (fun q hq e => by have := (lo b y hy q hq).1; have := hC q (.inl e); omega)) hBC
  · rcases sbAt_snoc hy with ⟨hk, hy⟩ | ⟨hk, hy⟩
    · rcases sbAt_snoc hz with ⟨hl, hz⟩ | ⟨hl, hz⟩
      · exact ho.far k l b d y z hy hz hne
      · exact fun g h1 h2 => by have := up k b y hy g h1; have := (lo d z hz g h2).1; omega
    · rcases sbAt_snoc hz with ⟨hl, hz⟩ | ⟨hl, hz⟩
      · exact fun g h1 h2 => by have := (lo b y hy g h1).1; have := up l d z hz g h2; omega
      · exact hf b d y z hy hz (by rcases hne with h | h; exact absurd (hk.trans hl.symm) h; exact h)
  · rcases sbAt_snoc hy with ⟨_, hy⟩ | ⟨_, hy⟩
    · rcases hloc with e | e
      · exact ho.off k b y hy g (by rw [← e]; exact h1) h2
      · rw [e] at h1
        injection h1 with h1
        have := ((ho.dat k b y hy).lt g h2).2
        omega
    · rcases hloc with e | e
      · have := hC g (.inl (by rw [← e]; exact h1))
        have := (lo b y hy g h2).1
        omega
      · rw [e] at h1
        injection h1 with h1
        have := (lo b y hy g h2).2
        omega
end Go.Proofs.YtfajenejngddeaaGreat

namespace Go.Proofs.YtfajenejngddeaaGreat
open Go.RowKit

/-- A slice that has room for what it has; a nil one has none. -/
def Cap (s : Sl) : Prop := s.n ≤ s.c ∧ (s.a = none → s.c = 0)
/-- Versions as they read. -/
structure VzIn (w : World) (l f s : Sl) (hs : List SeH) (d : VsD) : Prop where
  vr : VRow w l.a l.n d.list
  fr : FRow w f.a f.n d.fen
  sr : SeIn w (.slice s.a s.n s.c) s.n hs
  ss : hs.map (·.X) = d.ses
  cl : Cap l
  cf : Cap f
  cw : ∀ h ∈ hs, Cap h.s0
theorem VzIn.below {w w' : World} {l f s : Sl} {hs : List SeH} {d : VsD} (h : VzIn w l f s hs d) (hb : Below w.heap.size w w') : VzIn w' l f s hs d :=
  ⟨h.vr.below hb, h.fr.below hb, h.sr.below hb, h.ss, h.cl, h.cf, h.cw⟩
theorem VzIn.len {w : World} {l f s : Sl} {hs : List SeH} {d : VsD} (h : VzIn w l f s hs d) : hs.length = s.n ∧ hs.length = d.ses.length := by
  have h1 := h.sr.len
  rw [List.length_map] at h1
  exact ⟨h1, by rw [← h.ss, List.length_map]⟩
theorem VzIn.at {w : World} {l f s : Sl} {hs : List SeH} {d : VsD} (h : VzIn w l f s hs d) {i : Nat} (hi : i < hs.length) : ∃ hd : i < d.ses.length, hs[i].X = d.ses[i] := by
  have e := h.ss
  have hl := h.len.2
  refine ⟨by omega, ?_⟩
  have : (hs.map (·.X))[i]'(by simpa using hi) = d.ses[i]'(by omega) := by simp only [e]
  simpa using this
theorem SeIn.row {w : World} {v : Value} {n : Nat} {hs : List SeH} (h : SeIn w v n hs) {k : Nat} (hk : k < hs.length) : VRow w hs[k].s0.a hs[k].s0.n hs[k].X.ws := vrow_C (SeIn.sub h hk)
/-- Versions in memory of their own. -/
structure VzOwn (w : World) (B : Nat) (l f s : Sl) (hs : List SeH) (d : VsD) : Prop where
  vo : VOwns w B (.slice l.a l.n l.c) d.list
  fo : FOwns w B (.slice f.a f.n f.c) d.fen
  so : SeOwn w B (.slice s.a s.n s.c) hs
  ss : hs.map (·.X) = d.ses
  far : ∀ i, (Value.slice l.a l.n l.c).ownBlock = some i → ¬ NBl (.slice s.a s.n s.c) (hs.map seEl) i
theorem cap_of_owns {w : World} {B e t n : Nat} {s : Sl} {cs : List Value} (h : w.ownsRow B e t (.slice s.a s.n s.c) n cs) : Cap s := by
  obtain ⟨a, m, c⟩ := s
  rcases h.2 with ⟨e, _⟩ | ⟨g, cap, cur, e, hb, hh, hc, _⟩
  · injection e with e1 e2 e3
    subst e1 e2 e3
    exact ⟨Nat.le_refl _, fun _ => rfl⟩
  · injection e with e1 e2 e3
    subst e1 e2 e3
    exact ⟨hc, fun h => by cases h⟩
theorem owns_n {w : World} {B e t n m c : Nat} {a : Option Addr} {cs : List Value} (h : w.ownsRow B e t (.slice a m c) n cs) : m = n := by
  rcases h.2 with ⟨e, hn⟩ | ⟨g, cap, cur, e, _⟩
  · injection e with _ e2 _; omega
  · injection e
theorem VzOwn.reads {w : World} {B : Nat} {l f s : Sl} {hs : List SeH} {d : VsD} (h : VzOwn w B l f s hs d) : VzIn w l f s hs d :=
  ⟨vrow_of_owns h.vo, frow_of_owns h.fo, by have := h.so.reads; rw [← owns_n h.so.row] at this; exact this, h.ss, cap_of_owns h.vo, cap_of_owns h.fo, fun x hx => by
    obtain ⟨k, hk, rfl⟩ := List.getElem_of_mem hx
    exact cap_of_owns (h.so.dat k 0 _ (by unfold sbAt; rw [seEl_at hk]; rfl))⟩
theorem VzOwn.below {w w' : World} {B : Nat} {l f s : Sl} {hs : List SeH} {d : VsD} (h : VzOwn w B l f s hs d) (hb : Below w.heap.size w w') : VzOwn w' B l f s hs d :=
  ⟨rb_ownsRow_below h.vo hb, rb_ownsRow_below h.fo hb, h.so.below hb, h.ss, h.far⟩
theorem VzOwn.dn {w : World} {B C : Nat} {l f s : Sl} {hs : List SeH} {d : VsD} (h : VzOwn w B l f s hs d) (hc : C ≤ B) : VzOwn w C l f s hs d :=
  ⟨gd_base h.vo hc, gd_base h.fo hc, h.so.down hc, h.ss, h.far⟩
/-- The box of versions that a call is given. -/
abbrev vzC (next : Int) (l f s : Sl) : Array Value := #[.int .i64 next, .slice l.a l.n l.c, .slice f.a f.n f.c, .slice s.a s.n s.c]
end Go.Proofs.YtfajenejngddeaaGreat

namespace Go.Proofs.YtfajenejngddeaaGreat
open Go.RowKit

end Go.Proofs.YtfajenejngddeaaGreat

namespace Go.Proofs.YtfajenejngddeaaGreat
open Go.RowKit

theorem twoBx {w : World} {c1 c2 : Array Value} {t1 t2 : TypeId} {W : World} (hW : W = (w.alloc (.cells c1 t1)).alloc (.cells c2 t2)) :
    Below w.heap.size w W ∧ W.heap[w.heap.size]? = some (.cells c1 t1 (0, 0)) ∧ W.heap[w.heap.size + 1]? = some (.cells c2 t2 (0, 0)) ∧ W.heap.size = w.heap.size + 1 + 1 := by
  subst hW
  refine ⟨((Below.refl _ _).alloc (Nat.le_refl _) _).alloc (by simp) _, (((Below.refl _ _).alloc (Nat.le_refl _) _).block w.heap.size (by simp)).trans (heap_alloc_new _ _), ?_, by simp⟩
  have e : w.heap.size + 1 = (w.alloc (.cells c1 t1)).heap.size := by simp
  rw [e]
  exact heap_alloc_new _ _
end Go.Proofs.YtfajenejngddeaaGreat
