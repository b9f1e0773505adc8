/-
  A page put together is right and finds the same; a page is read back from its bytes.
-/
import Derived.Test.YtbboigidkimkmaaPbI
import Derived.Test.YtbboigidkimkmaaRpR
namespace Go.Proofs.Ytbboigidkimkmaa
open Go.RowKit

theorem strOf_bytesL (s : ByteArray) : strOfNums (bytesL s) = s := by
  unfold strOfNums bytesL
  rw [List.map_map]
  have e : (fun n : Int => UInt8.ofNat n.toNat) ∘ (fun c : UInt8 => (c.toNat : Int)) = id := by
    funext c
    simp
  rw [e, List.map_id]
theorem tk_app (xs rest : List Int) (b : Bool) : tk xs.length (xs ++ rest, b) = (xs, (rest, b)) := by
  unfold tk
  rw [if_neg (by simp), List.take_left, List.drop_left]
theorem rOne_cons (x : Int) (rest : List Int) (b : Bool) : rOne (x :: rest, b) = (x, (rest, b)) := by
  have := tk_app [x] rest b
  unfold rOne bd
  rw [show (x :: rest) = [x] ++ rest from rfl, show (1 : Nat) = [x].length from rfl, this]
  rfl
theorem rTwo_app (n : Int) (rest : List Int) (b : Bool) : rTwo (twoL n ++ rest, b) = (n, (rest, b)) := by
  have := tk_app (twoL n) rest b
  unfold rTwo bd
  rw [show (2 : Nat) = (twoL n).length from rfl, this]
  show (n / 256 * 256 + n % 256, (rest, b)) = (n, (rest, b))
  rw [show n / 256 * 256 + n % 256 = n by omega]
theorem rText_app (t : ByteArray) (rest : List Int) (b : Bool) : rText (lineL t ++ rest, b) = (t, (rest, b)) := by
  have h := tk_app (bytesL t) rest b
  rw [bytesL_length] at h
  unfold rText bd
  rw [show lineL t ++ rest = (t.size : Int) :: (bytesL t ++ rest) from rfl, rOne_cons]
  show (strOfNums (tk (t.size : Int).toNat (bytesL t ++ rest, b)).1, (tk (t.size : Int).toNat (bytesL t ++ rest, b)).2) = _
  rw [show ((t.size : Int)).toNat = t.size by omega, h, strOf_bytesL]
theorem bd_eq {σ α β : Type} {f : σ → α × σ} {g : α → σ → β × σ} {s s' : σ} {x : α} (h : f s = (x, s')) : bd f g s = g x s' := by unfold bd; rw [h]
theorem rEnt_app (e : EntD) (rest : List Int) (b : Bool) : rEnt (entL e ++ rest, b) = (e, (rest, b)) := by
  unfold rEnt entL
  rw [List.append_assoc]
  exact (bd_eq (rText_app _ _ _)).trans (bd_eq (rText_app _ _ _))
theorem rDel_app (d : DelD) (rest : List Int) (b : Bool) : rDel (delL d ++ rest, b) = (d, (rest, b)) := by
  unfold rDel delL
  rw [show (d.kind :: (lineL d.k ++ lineL d.v ++ twoL d.to)) ++ rest = d.kind :: (lineL d.k ++ (lineL d.v ++ (twoL d.to ++ rest))) by simp]
  exact (bd_eq (rOne_cons _ _ _)).trans ((bd_eq (rText_app _ _ _)).trans ((bd_eq (rText_app _ _ _)).trans (bd_eq (rTwo_app _ _ _))))
theorem rep_ents (es : List EntD) (rest : List Int) (b : Bool) : rep rEnt es.length (entsL es ++ rest, b) = (es, (rest, b)) := by
  induction es with
  | nil => rfl
  | cons e es ih =>
    rw [List.length_cons, rep, show entsL (e :: es) ++ rest = entL e ++ (entsL es ++ rest) by simp [entsL], rEnt_app, ih]
theorem rep_dels (ds : List DelD) (rest : List Int) (b : Bool) : rep rDel ds.length (delsL ds ++ rest, b) = (ds, (rest, b)) := by
  induction ds with
  | nil => rfl
  | cons d ds ih =>
    rw [List.length_cons, rep, show delsL (d :: ds) ++ rest = delL d ++ (delsL ds ++ rest) by simp [delsL], rDel_app, ih]
theorem rPage_app (lo hi : ByteArray) (r : Int) (es : List EntD) (ds : List DelD) : rPage (pageL lo hi r es ds, false) = (⟨lo, hi, r, es, ds⟩, ([], false)) := by
  have e : pageL lo hi r es ds = lineL lo ++ (lineL hi ++ (twoL (r + 1) ++ ((es.length : Int) :: (entsL es ++ ((ds.length : Int) :: (delsL ds ++ [])))))) := by simp [pageL, headL]
  rw [e]
  unfold rPage
  refine (bd_eq (rText_app _ _ _)).trans ((bd_eq (rText_app _ _ _)).trans ((bd_eq (rTwo_app _ _ _)).trans ((bd_eq (rOne_cons _ _ _)).trans ?_)))
  rw [show ((es.length : Int)).toNat = es.length by omega]
  refine (bd_eq (rep_ents _ _ _)).trans ((bd_eq (rOne_cons _ _ _)).trans ?_)
  rw [show ((ds.length : Int)).toNat = ds.length by omega]
  refine (bd_eq (rep_dels _ _ _)).trans ?_
  rw [show r + 1 - 1 = r by omega]
theorem rd_back {lo hi : ByteArray} {r : Int} {es : List EntD} {ds : List DelD} (h : okPage lo hi r es ds = true) (hl : (pageL lo hi r es ds).length ≤ 65536) : rdP (pageL lo hi r es ds) = ⟨lo, hi, r, es, ds⟩ ∧ rdC (pageL lo hi r es ds) = 0 := by
  have ok : rdOK (pageL lo hi r es ds) = true := by
    unfold rdOK
    rw [rPage_app]
    simp [h]
  have hn : ¬ 65536 < (pageL lo hi r es ds).length := by omega
  unfold rdP rdC
  rw [if_neg hn, if_neg hn, if_pos ok, if_pos ok, rPage_app]
  exact ⟨rfl, rfl⟩
end Go.Proofs.Ytbboigidkimkmaa
