/-
  Acts of a device as plain data.
-/
import Derived.Test.YtjhmammoakiknaaStP
import Derived.Test.YtjhmammoakiknaaCrashL
namespace Go.Proofs.Ytjhmammoakiknaa
open Go.RowKit

structure ActD where
  kind : Int
  at_ : Int
  torn : Int
  data : List Int
  keep : List Bool
/-- An act as a value. -/
abbrev av (x : ActD) (ad : Option Addr) (nd cd : Nat) (ak : Option Addr) (nk ck : Nat) : Value := .agg #[.int .i64 x.kind, .int .i64 x.at_, .int .i64 x.torn, .slice ad nd cd, .slice ak nk ck]
/-- A device: what is held, what waits. -/
structure FD where
  xs : List Int
  ws : List WD
def fitD (E : Int) (n : Nat) : Bool := decide (0 ≤ E ∧ E + (n : Int) ≤ 2048)
def trimD (b : List Int) (n : Nat) : List Int := if (n + 1) * 16 ≤ b.length then putB b (n * 16) nou else b
/-- One act: the device behind it, and its code. -/
def actD (f : FD) (x : ActD) : FD × Int :=
  if x.kind = 1 then
    (if fitD x.at_ x.data.length = true then (if (writeD f.xs f.ws x.at_.toNat x.data).length ≤ 4096 then (⟨f.xs, writeD f.xs f.ws x.at_.toNat x.data⟩, 0) else (f, 6)) else (f, 7))
  else if x.kind = 2 then (⟨readD f.xs f.ws, []⟩, 0)
  else if x.kind = 3 then (if 0 ≤ x.torn ∧ x.torn ≤ 16 then (⟨crashD f.xs f.ws x.keep x.torn.toNat, []⟩, 0) else (f, 4))
  else if x.kind = 4 then (if 0 ≤ x.at_ ∧ x.at_ ≤ 127 then (⟨trimD (readD f.xs f.ws) x.at_.toNat, []⟩, 0) else (f, 4))
  else (f, 3)
theorem actD_1 {f : FD} {x : ActD} (h : x.kind = 1) : actD f x = (if fitD x.at_ x.data.length = true then (if (writeD f.xs f.ws x.at_.toNat x.data).length ≤ 4096 then (⟨f.xs, writeD f.xs f.ws x.at_.toNat x.data⟩, 0) else (f, 6)) else (f, 7)) := by unfold actD; rw [if_pos h]
theorem actD_2 {f : FD} {x : ActD} (h : x.kind = 2) : actD f x = (⟨readD f.xs f.ws, []⟩, 0) := by unfold actD; rw [if_neg (by omega), if_pos h]
theorem actD_3 {f : FD} {x : ActD} (h : x.kind = 3) : actD f x = (if 0 ≤ x.torn ∧ x.torn ≤ 16 then (⟨crashD f.xs f.ws x.keep x.torn.toNat, []⟩, 0) else (f, 4)) := by unfold actD; rw [if_neg (by omega), if_neg (by omega), if_pos h]
theorem actD_4 {f : FD} {x : ActD} (h : x.kind = 4) : actD f x = (if 0 ≤ x.at_ ∧ x.at_ ≤ 127 then (⟨trimD (readD f.xs f.ws) x.at_.toNat, []⟩, 0) else (f, 4)) := by unfold actD; rw [if_neg (by omega), if_neg (by omega), if_neg (by omega), if_pos h]
/-- All acts, one behind the other: the device, the codes. -/
def runD (l : List ActD) : FD × List Int := l.foldl (fun s x => ((actD s.1 x).1, s.2 ++ [(actD s.1 x).2])) (⟨[], []⟩, [])
theorem runD_snoc (l : List ActD) (x : ActD) : runD (l ++ [x]) = ((actD (runD l).1 x).1, (runD l).2 ++ [(actD (runD l).1 x).2]) := by simp [runD, List.foldl_append]
theorem runD_take (l : List ActD) (k : Nat) (hk : k < l.length) : runD (l.take (k + 1)) = ((actD (runD (l.take k)).1 l[k]).1, (runD (l.take k)).2 ++ [(actD (runD (l.take k)).1 l[k]).2]) := by
  rw [List.take_succ_eq_append_getElem hk, runD_snoc]
theorem runD_codes (l : List ActD) : (runD l).2.length = l.length := by
  have : ∀ (l : List ActD) (s : FD × List Int), (l.foldl (fun s x => ((actD s.1 x).1, s.2 ++ [(actD s.1 x).2])) s).2.length = s.2.length + l.length := by
    intro l
    induction l with
    | nil => intro s; simp
    | cons x l ih => intro s; rw [List.foldl_cons, ih]; simp; omega
  have h := this l (⟨[], []⟩, [])
  unfold runD
  rw [h]
  simp
/-- A right device. -/
def okF (f : FD) : Prop := f.xs.length % 16 = 0 ∧ f.xs.length ≤ 2048 ∧ f.ws.length ≤ 4096 ∧ ∀ d ∈ f.ws, okW d = true
/-- The device at work has what the plain device has. -/
structure DInv (S : DS) (f : FD) : Prop where
  held : secBytes S.hc S.hf = f.xs
  read : secBytes S.rc S.rf = readD f.xs f.ws
  wait : S.ws = f.ws
  hok : secOK S.hc S.hf
  rok : secOK S.rc S.rf
  ok : okF f
theorem okF_start : okF ⟨[], []⟩ := ⟨rfl, Nat.zero_le _, Nat.zero_le _, fun _ h => by cases h⟩
theorem DInv.write {S : DS} {f : FD} (h : DInv S f) (E : Nat) (d : List Int) (hf : E + d.length ≤ 2048) (hn : (writeD f.xs f.ws E d).length ≤ 4096) (hk : secOK (wrDS S E d (touchN E d.length)).rc (wrDS S E d (touchN E d.length)).rf) : DInv (wrDS S E d (touchN E d.length)) ⟨f.xs, writeD f.xs f.ws E d⟩ := by
  have hh : ∀ (l : List WD) (S : DS), (l.foldl stepDS S).hc = S.hc ∧ (l.foldl stepDS S).hf = S.hf := by
    intro l
    induction l with
    | nil => intro S; exact ⟨rfl, rfl⟩
    | cons x l ih => intro S; rw [List.foldl_cons]; exact ih _
  have hb16 : (readD f.xs f.ws).length % 16 = 0 := (readD_bounds f.xs f.ws h.ok.1 h.ok.2.1 h.ok.2.2.2).1
  refine ⟨?_, ?_, ?_, ?_, hk, h.ok.1, h.ok.2.1, hn, fun w hw => ?_⟩
  · rw [wrDS_all, (hh _ S).1, (hh _ S).2]; exact h.held
  · rw [wrDS_read S E d h.rok hf, h.read]
    unfold writeD
    simp [readD]
  · rw [wrDS_all, fold_ws, h.wait, h.read]; rfl
  · rw [wrDS_all, (hh _ S).1, (hh _ S).2]; exact h.hok
  · unfold writeD at hw
    rcases List.mem_append.1 hw with hw | hw
    · exact h.ok.2.2.2 w hw
    · exact newW_ok _ _ _ hb16 hf w hw
theorem DInv.sync {S : DS} {f : FD} (h : DInv S f) : DInv ⟨S.rc, S.rf, S.rc, S.rf, []⟩ ⟨readD f.xs f.ws, []⟩ :=
  ⟨h.read, by rw [h.read]; rfl, rfl, h.rok, h.rok, (readD_bounds f.xs f.ws h.ok.1 h.ok.2.1 h.ok.2.2.2).1, (readD_bounds f.xs f.ws h.ok.1 h.ok.2.1 h.ok.2.2.2).2, Nat.zero_le _, fun _ h => by cases h⟩
theorem DInv.of_held {S : DS} {xs : List Int} (h1 : secBytes S.hc S.hf = xs) (h2 : S.rc = S.hc) (h3 : S.rf = S.hf) (h4 : S.ws = []) (hok : secOK S.hc S.hf) : DInv S ⟨xs, []⟩ := by
  have hl := secBytes_len S.hf hok.2.1 S.hc
  rw [h1] at hl
  have := hok.1
  exact ⟨h1, by rw [h2, h3, h1]; rfl, h4, hok, by rw [h2, h3]; exact hok, by show xs.length % 16 = 0; omega, by show xs.length ≤ 2048; omega, Nat.zero_le _, fun _ h => by cases h⟩
/-- A sector of noughts put where one is. -/
theorem trim_put {c n : Nat} {f : Nat → List Int} (h : secOK c f) (hn : n < c) : secBytes (max c (n + 1)) (updS f n nou) = trimD (secBytes c f) n := by
  have hl := secBytes_len f h.2.1 c
  have e := secBytes_put16 c f h.2.1 h.2.2 ⟨(n : Int), nou⟩ rfl
  simp only [Int.toNat_natCast] at e
  rw [e]
  unfold trimD putD growD
  rw [if_pos (by rw [hl]; omega)]
  simp only [Int.toNat_natCast]
  rw [hl, show (n + 1) * 16 - c * 16 = 0 by omega, List.replicate_zero, List.append_nil]
  rfl
theorem trim_out {c n : Nat} {f : Nat → List Int} (h : secOK c f) (hn : ¬ n < c) : trimD (secBytes c f) n = secBytes c f := by
  have hl := secBytes_len f h.2.1 c
  unfold trimD
  rw [if_neg (by rw [hl]; omega)]
theorem upd_ok {c n : Nat} {f : Nat → List Int} (h : secOK c f) (hn : n < c) : secOK (max c (n + 1)) (updS f n nou) := by
  refine ⟨by have := h.1; omega, fun i => ?_, fun i hi => ?_⟩
  · unfold updS; split
    · rfl
    · exact h.2.1 i
  · unfold updS
    rw [if_neg (by omega)]
    exact h.2.2 i (by omega)
end Go.Proofs.Ytjhmammoakiknaa
