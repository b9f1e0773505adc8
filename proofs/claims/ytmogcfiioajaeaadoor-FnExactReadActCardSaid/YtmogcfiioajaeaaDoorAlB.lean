/-
  Rows of flags that the call owns; what flags a word tells.
-/
import Derived.Test.YtmogcfiioajaeaaDoorAlQ
namespace Go.Proofs.YtmogcfiioajaeaaDoor
open Go.RowKit

/-- A slice of flags that the call owns from block B on. -/
abbrev KeepOwns (w : World) (B : Nat) (v : Value) (fs : List Bool) : Prop := w.ownsRow B 4 1 v fs.length (fs.map Value.bool)
theorem Tryd.infoBl : (Tryd.prog.info? 4).map (fun i => (i.zero, i.size, i.bytes)) = some (some (.bool false), 1, 1) := by kernel_rfl
theorem bl_app {w : World} {B : Nat} {v : Value} {fs : List Bool} (f : Bool) (ho : KeepOwns w B v fs) (hz : fs.length ≤ 1000000) (hB : B ≤ w.heap.size) :
    ∃ v' w', (Builtin.append_ #[24, 24] 24 #[v, .slice (some ⟨w.heap.size, 0, none⟩) 1 1]).run Tryd.prog (w.alloc (.cells #[.bool f] 4)) = .ok v' w' ∧ KeepOwns w' B v' (fs ++ [f]) ∧ (w.alloc (.cells #[.bool f] 4)).grownBy w' v.ownBlock ∧ (v'.ownBlock = v.ownBlock ∨ v'.ownBlock = some (w.heap.size + 1)) := by
  obtain ⟨i0, hi0, hz0, hz1, hz2⟩ := info_parts Tryd.infoBl
  have hoa := World.ownsRow.alloc ho (.cells #[.bool f] 4)
  have hcells : ∀ j u, ([Value.bool f])[j]? = some u → (w.alloc (.cells #[.bool f] 4)).cell? ((⟨w.heap.size, 0, none⟩ : Addr).add j) = some u := fun j u hu => by
    have hj : j < 1 := by simpa using (List.getElem?_eq_some_iff.1 hu).1
    have e2 : (⟨w.heap.size, 0, none⟩ : Addr).add j = ⟨w.heap.size, j, none⟩ := by unfold Addr.add; split <;> simp_all
    rw [e2]
    refine rb_cell_new rfl ?_
    match j, hj with
    | 0, _ => simpa using hu
  obtain ⟨v', w', hrun, ho', hg, -, hv⟩ := app_at (P := Tryd.prog) (w := w.alloc (.cells #[.bool f] 4)) (B := B) 24 24 4 Tryd.underlying24 hi0 hz0 hz1 hz2 rfl (by decide) hoa ⟨w.heap.size, 0, none⟩ 1 1 [.bool f] (by simp) hcells (by intro u hu; simp at hu; rw [hu]; rfl) (by unfold maxLen; omega) (by omega) (by simp; omega) (fun _ => by omega)
  exact ⟨v', w', hrun, by unfold KeepOwns; rw [List.length_append, List.map_append]; exact ho', hg, by rw [show w.heap.size + 1 = (w.alloc (.cells #[.bool f] 4)).heap.size by simp]; exact hv⟩
theorem below_grownB {B : Nat} {w wr w1 : World} {n : Nat} {v : Value} {xs : List Value} (hb : Below B w wr) (hB : B ≤ wr.heap.size) (hown : wr.ownsRow B 4 1 v n xs) (hg : wr.grownBy w1 v.ownBlock) : Below B w w1 :=
  hb.grown hg hB (fun k hk => (hown.lt k hk).1)
def okL (l : List UInt8) : Bool := l.all fun b => b == 48 || b == 49
def flL (l : List UInt8) : List Bool := l.map fun b => b == 49
theorem okL_snoc (l : List UInt8) (b : UInt8) : okL (l ++ [b]) = (okL l && (b == 48 || b == 49)) := by simp [okL]
theorem flL_snoc (l : List UInt8) (b : UInt8) : flL (l ++ [b]) = flL l ++ [b == 49] := by simp [flL]
theorem flL_len (l : List UInt8) : (flL l).length = l.length := by simp [flL]
theorem numR_eq (o : Option Int) : numR o = .tuple #[.int .i64 (o.getD 0), .bool o.isSome] := by cases o <;> rfl
def syncB : ByteArray := ⟨#[115, 121, 110, 99]⟩
def cleanB : ByteArray := ⟨#[99, 108, 101, 97, 110]⟩
def crashB : ByteArray := ⟨#[99, 114, 97, 115, 104]⟩
def crA (v : Int) (fs : List Bool) : AlD := ⟨3, v, 0, 0, ⟨#[]⟩, ⟨#[]⟩, ⟨#[]⟩, fs⟩
def onA (k : Int) : AlD := ⟨k, 0, 0, 0, ⟨#[]⟩, ⟨#[]⟩, ⟨#[]⟩, []⟩
/-- The act that words tell. -/
def acW (ws : List ByteArray) : Option AlD := match txW ws with
  | some d => some d
  | none => match ws with
    | [x] => if x = syncB then some (onA 2) else if x = cleanB then some (onA 4) else none
    | [x, y] => if x = crashB then (numV y.data.toList).map (fun v => crA v []) else none
    | [x, y, z] => if x = crashB then (if okL z.data.toList = true then (numV y.data.toList).map (fun v => crA v (flL z.data.toList)) else none) else none
    | _ => none
theorem ac_tx {ws : List ByteArray} {d : AlD} (h : txW ws = some d) : acW ws = some d := by unfold acW; rw [h]
theorem ac_sync {ws : List ByteArray} {x : ByteArray} (h : txW ws = none) (hl : ws.length = 1) {h0 : 0 < ws.length} (e : ws[0] = x) (hx : x = syncB) : acW ws = some (onA 2) := by
  match ws, hl, h0, e with
  | [y], _, _, e =>
    simp only [List.getElem_cons_zero] at e
    subst e
    unfold acW
    rw [h]
    exact if_pos hx
theorem ac_clean {ws : List ByteArray} {x : ByteArray} (h : txW ws = none) (hl : ws.length = 1) {h0 : 0 < ws.length} (e : ws[0] = x) (hx : x = cleanB) : acW ws = some (onA 4) := by
  match ws, hl, h0, e with
  | [y], _, _, e =>
    simp only [List.getElem_cons_zero] at e
    subst e hx
    unfold acW
    rw [h]
    exact (if_neg (by decide)).trans (if_pos rfl)
theorem ac_two {ws : List ByteArray} {x y : ByteArray} (h : txW ws = none) (hl : ws.length = 2) {h0 : 0 < ws.length} {h1 : 1 < ws.length} (e : ws[0] = x) (e1 : ws[1] = y) (hx : x = crashB) : acW ws = (numV y.data.toList).map (fun v => crA v []) := by
  match ws, hl, h0, h1, e, e1 with
  | [x', y'], _, _, _, e, e1 =>
    simp only [List.getElem_cons_zero, List.getElem_cons_succ] at e e1
    subst e e1
    unfold acW
    rw [h]
    exact if_pos hx
theorem ac_three {ws : List ByteArray} {x y z : ByteArray} (h : txW ws = none) (hl : ws.length = 3) {h0 : 0 < ws.length} {h1 : 1 < ws.length} {h2 : 2 < ws.length} (e : ws[0] = x) (e1 : ws[1] = y) (e2 : ws[2] = z) (hx : x = crashB) : acW ws = if okL z.data.toList = true then (numV y.data.toList).map (fun v => crA v (flL z.data.toList)) else none := by
  match ws, hl, h0, h1, h2, e, e1, e2 with
  | [x', y', z'], _, _, _, _, e, e1, e2 =>
    simp only [List.getElem_cons_zero, List.getElem_cons_succ] at e e1 e2
    subst e e1 e2
    unfold acW
    rw [h]
    exact if_pos hx
theorem ac_none {ws : List ByteArray} {x : ByteArray} (h : txW ws = none) {h0 : 0 < ws.length} (e : ws[0] = x) (q1 : ws.length = 1 → x ≠ syncB ∧ x ≠ cleanB) (q2 : 2 ≤ ws.length → ws.length ≤ 3 → x ≠ crashB) : acW ws = none := by
  unfold acW
  rw [h]
  match ws, h0, e, q1, q2 with
  | [], h0, _, _, _ => exact absurd h0 (by simp)
  | [x'], _, e, q1, _ =>
    simp only [List.getElem_cons_zero] at e
    subst e
    exact (if_neg (q1 rfl).1).trans (if_neg (q1 rfl).2)
  | [x', y'], _, e, _, q2 =>
    simp only [List.getElem_cons_zero] at e
    subst e
    exact if_neg (q2 (by simp) (by simp))
  | [x', y', z'], _, e, _, q2 =>
    simp only [List.getElem_cons_zero] at e
    subst e
    exact if_neg (q2 (by simp) (by simp))
  | _ :: _ :: _ :: _ :: _, _, _, _, _ => rfl
end Go.Proofs.YtmogcfiioajaeaaDoor
