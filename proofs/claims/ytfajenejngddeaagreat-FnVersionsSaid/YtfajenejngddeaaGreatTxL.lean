/-
  Acts of sessions as plain data: what an act makes of versions, and what is replied.
-/
import Derived.Test.YtfajenejngddeaaGreatVoA
import Derived.Test.YtfajenejngddeaaGreatVeL
import Derived.Test.YtfajenejngddeaaGreatPageM
import Derived.Test.YtfajenejngddeaaGreatXaC
namespace Go.Proofs.YtfajenejngddeaaGreat
open Go.RowKit

/-- A reply. -/
structure RepD where
  code : Int
  time : Int
  val : ByteArray
  list : List EntD
/-- The first place whose version is not ahead of one. -/
def posV : List VerD → VerD → Nat
  | [], _ => 0
  | d :: r, x => if ltV d x then posV r x + 1 else 0
theorem posV_le : ∀ (ds : List VerD) (x : VerD), posV ds x ≤ ds.length
  | [], _ => Nat.le_refl _
  | d :: r, x => by
    unfold posV
    have := posV_le r x
    split <;> simp <;> omega
theorem posV_lt : ∀ (ds : List VerD) (x : VerD) (i : Nat) (hi : i < ds.length), i < posV ds x → ltV ds[i] x = true
  | [], _, _, hi, _ => by simp at hi
  | d :: r, x, i, hi, h => by
    unfold posV at h
    split at h
    · rename_i hl
      cases i with
      | zero => exact hl
      | succ i => exact posV_lt r x i (by simpa using hi) (by omega)
    · omega
theorem posV_at : ∀ (ds : List VerD) (x : VerD) (h : posV ds x < ds.length), ltV ds[posV ds x] x = false
  | [], _, h => by simp [posV] at h
  | d :: r, x, h => by
    by_cases hl : ltV d x = true
    · have e : posV (d :: r) x = posV r x + 1 := by rw [posV, if_pos hl]
      have h' : posV r x < r.length := by rw [e] at h; simpa using h
      have := posV_at r x h'
      simp only [e, List.getElem_cons_succ]
      exact this
    · have e : posV (d :: r) x = 0 := by rw [posV, if_neg hl]
      simp only [e, List.getElem_cons_zero]
      simpa using hl
theorem posV_step {ds : List VerD} {x : VerD} {i : Nat} (hi : i < ds.length) (h : i ≤ posV ds x) (hl : ltV ds[i] x = true) : i + 1 ≤ posV ds x := by
  rcases Nat.lt_or_ge i (posV ds x) with h1 | h1
  · omega
  · obtain rfl : i = posV ds x := by omega
    rw [posV_at ds x hi] at hl
    cases hl
theorem posV_end {ds : List VerD} {x : VerD} {i : Nat} (hi : i < ds.length) (h : i ≤ posV ds x) (hl : ltV ds[i] x = false) : i = posV ds x := by
  rcases Nat.lt_or_ge i (posV ds x) with h1 | h1
  · rw [posV_lt ds x i hi h1] at hl
    cases hl
  · omega
def sameV (a b : VerD) : Bool := decide (a.k = b.k) && decide (a.t = b.t)
/-- One of the same key and time stands there. -/
def hitV (ds : List VerD) (x : VerD) : Bool := match ds[posV ds x]? with
  | some d => sameV d x
  | none => false
/-- A version put in its place, for one of the same key and time. -/
def insV (ds : List VerD) (x : VerD) : List VerD := ds.take (posV ds x) ++ x :: ds.drop (posV ds x + (if hitV ds x = true then 1 else 0))
theorem insV_len (ds : List VerD) (x : VerD) : (insV ds x).length ≤ ds.length + 1 := by
  unfold insV
  have := posV_le ds x
  simp only [List.length_append, List.length_take, List.length_cons, List.length_drop]
  omega
def kvE (d : KvD) : EntD := ⟨d.k, d.v⟩
theorem kcs_ecs : ∀ ds : List KvD, kcs ds = ecs (ds.map kvE)
  | [] => rfl
  | d :: r => by simp only [kcs, List.map_cons, ecs, kcs_ecs r, kvE]
/-- What a session sees. -/
def seenV (d : VsD) (s : SesD) : List EntD := s.ws.foldl (fun es x => putE es ⟨x.k, x.v⟩ x.g) ((entsAt d.list s.t).map kvE)
def getR (es : List EntD) (k : ByteArray) (t : Int) : RepD := es.foldl (fun r e => if e.k = k then ⟨0, t, e.v, []⟩ else r) ⟨5, t, ⟨#[]⟩, []⟩
/-- A write comes too late. -/
def conV (d : VsD) (x : VerD) : Bool := d.list.any (fun y => decide (y.k = x.k) && decide (x.t < y.t)) || d.fen.any (fun f => decide (x.t < f.t) && inK f.f f.u x.k)
def repV (c t : Int) : RepD := ⟨c, t, ⟨#[]⟩, []⟩
def clS : SesD := ⟨false, 0, []⟩
def fenV (d : VsD) (f : FenD) (r : RepD) : VsD × RepD := if d.fen.length = 4096 then (d, repV 7 r.time) else (⟨d.next, d.list, d.fen ++ [f], d.ses⟩, r)
/-- The sizes of an act's texts. -/
def fitA (a : TxD) : Bool := if a.kind = 2 ∨ a.kind = 4 ∨ a.kind = 5 then keyK a.key && valK a.val else if a.kind = 3 then decide (a.key.size ≤ 40) && decide (a.to.size ≤ 40) else true
def wrA (a : TxD) (t : Int) : VerD := if a.kind = 5 then ⟨a.key, t, ⟨#[]⟩, true⟩ else ⟨a.key, t, a.val, false⟩
def nulK (k : ByteArray) : ByteArray := k ++ ⟨#[0]⟩
/-- An act of an open session, of right sizes. -/
def inV (d : VsD) (a : TxD) (i : Nat) (s : SesD) : VsD × RepD :=
  if a.kind = 2 then fenV d ⟨a.key, nulK a.key, s.t⟩ (getR (seenV d s) a.key s.t)
  else if a.kind = 3 then fenV d ⟨a.key, a.to, s.t⟩ ⟨0, s.t, ⟨#[]⟩, (seenV d s).filter (fun e => inK a.key a.to e.k)⟩
  else if a.kind = 4 ∨ a.kind = 5 then
    if 8 < (insV s.ws (wrA a s.t)).length then (d, repV 7 s.t) else (⟨d.next, d.list, d.fen, d.ses.set i ⟨s.o, s.t, insV s.ws (wrA a s.t)⟩⟩, repV 0 s.t)
  else if a.kind = 6 then
    if s.ws.any (conV d) = true then (⟨d.next, d.list, d.fen, d.ses.set i clS⟩, repV 9 s.t) else (⟨d.next, s.ws.foldl insV d.list, d.fen, d.ses.set i clS⟩, repV 0 s.t)
  else (⟨d.next, d.list, d.fen, d.ses.set i clS⟩, repV 0 s.t)
/-- An act of a session. -/
def sesV (d : VsD) (a : TxD) (i : Nat) (s : SesD) : VsD × RepD :=
  if a.kind = 1 then
    if s.o = true then (d, repV 8 0) else if d.next = 1000 then (d, repV 7 0) else (⟨d.next + 1, d.list, d.fen, d.ses.set i ⟨true, d.next, []⟩⟩, repV 0 d.next)
  else if s.o = false then (d, repV 10 0)
  else if fitA a = false then (d, repV 11 s.t)
  else inV d a i s
def stepV (d : VsD) (a : TxD) : VsD × RepD :=
  if ¬ (1 ≤ a.kind ∧ a.kind ≤ 7) then (d, repV 3 0)
  else if ¬ (0 ≤ a.ses ∧ a.ses ≤ 3) then (d, repV 4 0)
  else sesV d a a.ses.toNat (d.ses.getD a.ses.toNat clS)
def newV : VsD := ⟨1, [], [], List.replicate 4 clS⟩
/-- Acts one behind the other. -/
def runV (acts : List TxD) : VsD × List RepD := acts.foldl (fun p a => ((stepV p.1 a).1, p.2 ++ [(stepV p.1 a).2])) (newV, [])
theorem runV_snoc (acts : List TxD) (a : TxD) : runV (acts ++ [a]) = ((stepV (runV acts).1 a).1, (runV acts).2 ++ [(stepV (runV acts).1 a).2]) := by
  unfold runV
  rw [List.foldl_append]
  rfl
theorem foldV_len : ∀ (acts : List TxD) (p : VsD × List RepD), (acts.foldl (fun p a => ((stepV p.1 a).1, p.2 ++ [(stepV p.1 a).2])) p).2.length = p.2.length + acts.length
  | [], p => rfl
  | a :: r, p => by rw [List.foldl_cons, foldV_len r]; simp only [List.length_append, List.length_cons, List.length_nil]; omega
theorem runV_len (acts : List TxD) : (runV acts).2.length = acts.length := by unfold runV; rw [foldV_len]; simp
end Go.Proofs.YtfajenejngddeaaGreat
