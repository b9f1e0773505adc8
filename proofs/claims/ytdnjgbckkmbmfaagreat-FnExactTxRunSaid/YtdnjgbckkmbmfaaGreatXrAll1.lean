/-
  PageC, PageD, PageE, PageF, PageG, PageH, PageI, PageJ, PageK, PageM, XaC, TxL, VeD, VsA, VsB, VeS, AppL, VpA in one.
-/
import Derived.Test.YtdnjgbckkmbmfaaGreatPageB
import Derived.Laws.CopyRow
import Derived.Laws.Externs
import Derived.Laws.IdiomCopy
import Derived.Lib.Overlaps
import Derived.Lib.AppendZerosOnto
import Derived.Deep.RegionLaw
import Derived.Lib.SliceRun
import Derived.Deep.RegionWith
import Derived.Deep.DeepCutAuto
import Derived.Test.YtdnjgbckkmbmfaaGreatRowB
import Derived.Test.YtdnjgbckkmbmfaaGreatVoA
import Derived.Test.YtdnjgbckkmbmfaaGreatVeL
import Derived.Sort.KeysCollected
import Derived.Sort.Walk0
import Derived.Test.YtdnjgbckkmbmfaaGreatVrL
import Derived.Test.YtdnjgbckkmbmfaaGreatTakes
import Derived.Deep.Cut
import Derived.Test.YtdnjgbckkmbmfaaGreatVrT
import Derived.Test.YtdnjgbckkmbmfaaGreatFnT
import Derived.Test.YtdnjgbckkmbmfaaGreatWrT
namespace Go.Proofs.YtdnjgbckkmbmfaaGreat
open Go.RowKit

theorem tup_ib {a b : Int} {c d : Bool} (h : a = b) (g : c = d) : Ending.returned (.tuple #[.int .i64 a, .bool c]) = .returned (.tuple #[.int .i64 b, .bool d]) := by rw [h, g]
end Go.Proofs.YtdnjgbckkmbmfaaGreat

namespace Go.Proofs.YtdnjgbckkmbmfaaGreat
open Go.RowKit

theorem Tryz.infoEntry : (Tryz.prog.info? 48).map (fun i => (i.zero, i.size, i.bytes)) = some (some (.agg #[.string ByteArray.empty, .string ByteArray.empty]), 2, 32) := by kernel_rfl
theorem stepCopyE {P : Program} {ops : Array Oper} {o : Oper} {a : Act} {w : World} {K : Act → World → Prop} {Q : Exit → Act → World → Prop} {E : Prop}
    (hg : o.guard = none) (s x : Operand) (t : TypeId) (hop : o.op = Op.call { callee := Callee.builtin Builtin.copy, args := #[s, x], argTypes := #[t, t] })
    (vs vx v' : Value) (w' : World) (hs : a.eval s = vs) (hx : a.eval x = vx) (hrun : (Builtin.copy_ #[t, t] o.type #[vs, vx]).run P w = .ok v' w') (hK : K (a.put o.dst v') w') :
    if Region.wanted o (yielded ops a.tmps) = true then Oper.wp P o a w K Q else E := by
  have hw : Region.wanted o (yielded ops a.tmps) = true := by simp [Region.wanted, hg]
  rw [if_pos hw]
  unfold Oper.wp
  simp [execOp, hop, resolve, invoke, builtin, hs, hx, hrun, Result.andThen]
  exact hK
theorem wpCopyE {P : Program} {ops : Array Oper} {rest : List Oper} {o : Oper} {a : Act} {w : World} {Q : Exit → Act → World → Prop}
    (hg : o.guard = none) (s x : Operand) (t : TypeId) (hop : o.op = Op.call { callee := Callee.builtin Builtin.copy, args := #[s, x], argTypes := #[t, t] })
    (vs vx v' : Value) (w' : World) (hs : a.eval s = vs) (hx : a.eval x = vx) (hrun : (Builtin.copy_ #[t, t] o.type #[vs, vx]).run P w = .ok v' w') (h : wpList P ops Q rest (a.put o.dst v') w') :
    wpList P ops Q (o :: rest) a w :=
  wpList_plain hg fun _ hK => by
    unfold Oper.wp
    simp [execOp, hop, resolve, invoke, builtin, hs, hx, hrun, Result.andThen]
    exact hK _ _ h
theorem grown_setRow (w : World) (g : Nat) (cs : Array Value) : w.grownBy (w.setRow g cs) (some g) :=
  ⟨rfl, rfl, rfl, by simp, fun k _ hk => setRow_other w g k cs (fun e => hk (by rw [e]))⟩
theorem grown_trans {w w1 w2 : World} {r : Option Nat} (h : w.grownBy w1 r) (k : w1.grownBy w2 r) : w.grownBy w2 r :=
  ⟨k.os.trans h.os, k.tape.trans h.tape, k.output.trans h.output, Nat.le_trans h.size k.size, fun i hi hne => (k.block i (Nat.lt_of_lt_of_le hi h.size) hne).trans (h.block i hi hne)⟩
theorem grown_new {w w1 : World} {r : Option Nat} (h : Below w.heap.size w w1) : w.grownBy w1 r := ⟨h.os, h.tape, h.output, h.size, fun k hk _ => h.block k hk⟩
end Go.Proofs.YtdnjgbckkmbmfaaGreat

namespace Go.Proofs.YtdnjgbckkmbmfaaGreat
open Go.RowKit

end Go.Proofs.YtdnjgbckkmbmfaaGreat

namespace Go.Proofs.YtdnjgbckkmbmfaaGreat
open Go.RowKit

end Go.Proofs.YtdnjgbckkmbmfaaGreat

namespace Go.Proofs.YtdnjgbckkmbmfaaGreat
open Go.RowKit

theorem bel_of_drew {B : Nat} {w w' : World} (h : Below B w.drew w') : Below B w w' := ⟨h.os, h.tape, h.output, h.size, h.block⟩
theorem bel_of_drewN {B q : Nat} {w w' : World} (h : Below B (w.drewN q) w') : Below B w w' := ⟨h.os, h.tape, h.output, h.size, h.block⟩
theorem eowns_below {w w' : World} {B : Nat} {v : Value} {es : List EntD} (h : EOwns w B v es) (hb : Below w.heap.size w w') : EOwns w' B v es :=
  World.ownsRow.kept (row := none) h ⟨hb.os, hb.tape, hb.output, hb.size, fun i hi _ => hb.block i hi⟩ (by cases hv : v.ownBlock <;> simp)
end Go.Proofs.YtdnjgbckkmbmfaaGreat

namespace Go.Proofs.YtdnjgbckkmbmfaaGreat
open Go.RowKit

end Go.Proofs.YtdnjgbckkmbmfaaGreat

namespace Go.Proofs.YtdnjgbckkmbmfaaGreat
open Go.RowKit

def DRow (w : World) (a : Option Addr) (n : Nat) (ds : List DelD) : Prop :=
  ds.length = n ∧ ∀ i (hi : i < ds.length), ∃ b off, a = some ⟨b, off, none⟩ ∧ w.cell? ⟨b, off + i * 4, none⟩ = some (.int .i64 ds[i].kind) ∧ w.cell? ⟨b, off + i * 4 + 1, none⟩ = some (.string ds[i].k) ∧
    w.cell? ⟨b, off + i * 4 + 2, none⟩ = some (.string ds[i].v) ∧ w.cell? ⟨b, off + i * 4 + 3, none⟩ = some (.int .i64 ds[i].to)
theorem DRow.below {w w' : World} {a : Option Addr} {n : Nat} {ds : List DelD} (h : DRow w a n ds) (hb : Below w.heap.size w w') : DRow w' a n ds := by
  refine ⟨h.1, fun i hi => ?_⟩
  obtain ⟨b, off, e, c0, c1, c2, c3⟩ := h.2 i hi
  have hbl : b < w.heap.size := cell_lt c0
  exact ⟨b, off, e, (hb.cell (p := ⟨b, off + i * 4, none⟩) hbl).trans c0, (hb.cell (p := ⟨b, off + i * 4 + 1, none⟩) hbl).trans c1, (hb.cell (p := ⟨b, off + i * 4 + 2, none⟩) hbl).trans c2, (hb.cell (p := ⟨b, off + i * 4 + 3, none⟩) hbl).trans c3⟩
end Go.Proofs.YtdnjgbckkmbmfaaGreat

namespace Go.Proofs.YtdnjgbckkmbmfaaGreat
open Go.RowKit

end Go.Proofs.YtdnjgbckkmbmfaaGreat

namespace Go.Proofs.YtdnjgbckkmbmfaaGreat
open Go.RowKit

theorem l01In_any (n a b : Int) (w : World) : Calls Tryz.prog 75 #[.int .i64 n, .int .i64 a, .int .i64 b] w fun e w' => e = .returned (.bool (decide (a ≤ n) && decide (n ≤ b))) ∧ w' = w := by
  by_cases h : a ≤ n
  · have E := hide (show decide (n ≤ b) = (decide (a ≤ n) && decide (n ≤ b)) by rw [decide_eq_true h]; rfl)
    go_enter Tryz.func75, Tryz.ntmps75
    go_wp2_with fail
    go_ret
    exact ⟨ret_bool (unhide E), rfl⟩
  · have E := hide (show false = (decide (a ≤ n) && decide (n ≤ b)) by rw [decide_eq_false h]; rfl)
    go_enter Tryz.func75, Tryz.ntmps75
    go_wp2_with fail
    go_ret
    exact ⟨ret_bool (unhide E), rfl⟩
theorem l04Key_any (k : ByteArray) (w : World) : Calls Tryz.prog 76 #[.string k] w fun e w' => e = .returned (.bool (keyK k)) ∧ w' = w := by
  by_cases h : 0 < k.size
  · have E := hide (show decide ((k.size : Int) ≤ 40) = keyK k by unfold keyK; rw [decide_eq_decide]; omega)
    go_enter Tryz.func76, Tryz.ntmps76
    go_wp2_with fail
    go_ret
    exact ⟨ret_bool (unhide E), rfl⟩
  · have E := hide (show false = keyK k by unfold keyK; rw [decide_eq_false]; omega)
    go_enter Tryz.func76, Tryz.ntmps76
    go_wp2_with fail
    go_ret
    exact ⟨ret_bool (unhide E), rfl⟩
def underK (k hi : ByteArray) : Bool := hi.toList.isEmpty || ltK k hi
theorem l04Under_any (k hi : ByteArray) (w : World) : Calls Tryz.prog 111 #[.string k, .string hi] w fun e w' => e = .returned (.bool (underK k hi)) ∧ w' = w := by
  by_cases h : hi.toList.isEmpty = true
  · have E := hide (show true = underK k hi by unfold underK; rw [h]; rfl)
    go_enter Tryz.func111, Tryz.ntmps111
    go_wp2_with fail
    go_ret
    exact ⟨ret_bool (unhide E), rfl⟩
  · have h' : hi.toList.isEmpty = false := by simpa using h
    have E := hide (show Op.bytesLess k.toList hi.toList = underK k hi by unfold underK ltK; rw [h']; rfl)
    go_enter Tryz.func111, Tryz.ntmps111
    go_wp2_with fail
    go_ret
    exact ⟨ret_bool (unhide E), rfl⟩
end Go.Proofs.YtdnjgbckkmbmfaaGreat

namespace Go.Proofs.YtdnjgbckkmbmfaaGreat
open Go.RowKit

def putE (es : List EntD) (e : EntD) (gone : Bool) : List EntD := stepE es ⟨if gone then 2 else 1, e.k, e.v, 0⟩
theorem less_at {es : List EntD} {k : ByteArray} {i : Nat} (hi : i < es.length) (hp : i < pos es k) : Op.bytesLess es[i].k.toList k.toList = true := pos_lt es k i hi hp
theorem eapp {w : World} {B : Nat} {v : Value} {xs : List EntD} {e : EntD} (h : w.ownsRow B 48 2 v (xs.length + 1) (ecs xs ++ [.string e.k, .string e.v])) : EOwns w B v (xs ++ [e]) := by
  rw [← show ecs [e] = [.string e.k, .string e.v] from rfl, ← ecs_append] at h
  unfold EOwns
  rw [List.length_append]
  exact h
theorem eowns_some {w : World} {B : Nat} {v : Value} {es : List EntD} (h : EOwns w B v es) (hv : v ≠ .slice none 0 0) : ∃ g cap, v = .slice (some ⟨g, 0, none⟩) es.length cap ∧ B ≤ g := by
  rcases h.2 with ⟨e, _⟩ | ⟨g, cap, cur, e, hb, _⟩
  · exact absurd e hv
  · exact ⟨g, cap, e, hb⟩
theorem ownsRow_base2 {w : World} {B C e s n : Nat} {v : Value} {vs : List Value} (h : w.ownsRow B e s v n vs) (hC : C ≤ B) : w.ownsRow C e s v n vs := by
  obtain ⟨hl, h⟩ := h
  refine ⟨hl, ?_⟩
  rcases h with h | ⟨g, cap, cur, e, hb, r⟩
  · exact .inl h
  · exact .inr ⟨g, cap, cur, e, Nat.le_trans hC hb, r⟩
theorem drop_src {w : World} {b off n c k : Nat} {es : List EntD} (hE : ERow w (some ⟨b, off, none⟩) n es) (hc : n ≤ c) : ∃ A : Addr, (if c = k then some (⟨b, off, none⟩ : Addr) else some ⟨b, off + k * 2, none⟩) = some A ∧ Hid (∀ t u, (ecs (es.drop k))[t]? = some u → w.cell? (A.add t) = some u) := by
  by_cases h : c = k
  · refine ⟨⟨b, off, none⟩, by simp [h], fun t u hu => ?_⟩
    rw [List.drop_of_length_le (by have := hE.1; omega)] at hu
    simp [ecs] at hu
  · refine ⟨⟨b, off + k * 2, none⟩, by simp [h], fun t u hu => ?_⟩
    rw [Addr.add_lit]
    have hl : t < (es.drop k).length * 2 := by
      have := (List.getElem?_eq_some_iff.1 hu).1
      rwa [ecs_len] at this
    have hq : t / 2 < (es.drop k).length := by omega
    have hk : k + t / 2 < es.length := by rw [List.length_drop] at hq; omega
    obtain ⟨b', off', e, c0, c1⟩ := hE.2 (k + t / 2) hk
    injection e with e
    injection e with e1 e2
    subst e1 e2
    rcases Nat.mod_two_eq_zero_or_one t with h0 | h0
    · obtain ⟨m, rfl⟩ : ∃ m, t = m * 2 := ⟨t / 2, by omega⟩
      have hm : m * 2 / 2 = m := by omega
      simp only [hm] at hq hk c0
      rw [ecs_at0 _ m hq] at hu
      rw [show off + k * 2 + m * 2 = off + (k + m) * 2 by omega, c0, ← hu, List.getElem_drop]
    · obtain ⟨m, rfl⟩ : ∃ m, t = m * 2 + 1 := ⟨t / 2, by omega⟩
      have hm : (m * 2 + 1) / 2 = m := by omega
      simp only [hm] at hq hk c1
      rw [ecs_at1 _ m hq] at hu
      rw [show off + k * 2 + (m * 2 + 1) = off + (k + m) * 2 + 1 by omega, c1, ← hu, List.getElem_drop]
set_option maxRecDepth 100000 in
set_option maxHeartbeats 4000000 in
theorem l04Put_any (b off n c : Nat) (es : List EntD) (e : EntD) (gone : Bool) (w : World) (hE : ERow w (some ⟨b, off, none⟩) n es) (hn : n ≤ 1000) (hc : n ≤ c) :
    Calls Tryz.prog 110 #[.slice (some ⟨b, off, none⟩) n c, .agg #[.string e.k, .string e.v], .bool gone] w fun x w' => ∃ g cap, x = .returned (.slice (some ⟨g, 0, none⟩) (putE es e gone).length cap) ∧ EOwns w' w.heap.size (.slice (some ⟨g, 0, none⟩) (putE es e gone).length cap) (putE es e gone) ∧ Below w.heap.size w w' := by
  obtain ⟨i0, hi0, hz0, hz1, hz2⟩ := info_parts Tryz.infoEntry
  have LE := hide hE.1
  have RE := hide hE
  have PL := hide (pos_le es e.k)
  clear hE
  have b1 : Below w.heap.size w ((w.alloc (.cells #[.string e.k, .string e.v] 48)).alloc (.cells #[] 48)) := ((Below.refl _ _).alloc (Nat.le_refl _) _).alloc (by simp) _
  have O0 := hide (show EOwns ((w.alloc (.cells #[.string e.k, .string e.v] 48)).alloc (.cells #[] 48)) (w.heap.size + 1) (.slice (some ⟨w.heap.size + 1, 0, none⟩) 0 0) [] by
    have := World.ownsRow_lit (base := w.heap.size + 1) (e := 48) (size := 2) (w.alloc (.cells #[.string e.k, .string e.v] 48)) #[] 0 (by simp) (by unfold maxLen; simp) rfl
    simp at this
    exact this)
  go_enter Tryz.func110, Tryz.ntmps110
  go_wp2_with fail
  go_loopw [7, 8] (fun v i wr => ∃ (j g cap : Nat), i = .int .i64 (j : Int) ∧ v = .slice (some ⟨g, 0, none⟩) j cap ∧ j ≤ pos es e.k ∧ Hid (EOwns wr (w.heap.size + 1) (.slice (some ⟨g, 0, none⟩) j cap) (es.take j)) ∧ Hid (Below (w.heap.size + 1) ((w.alloc (.cells #[.string e.k, .string e.v] 48)).alloc (.cells #[] 48)) wr)) (fun _ i _ => n - (intOf i).toNat)
  case atStart => exact ⟨0, w.heap.size + 1, 0, rfl, rfl, Nat.zero_le _, unhide O0, Below.refl _ _⟩
  case round =>
    clear O0
    obtain ⟨j, g, cap, rfl, rfl, hj, hO, hB⟩ := hrel
    have BW := hide (b1.trans ((unhide hB).mono (by omega)))
    have e0 : wr.cell? ⟨w.heap.size, 0, none⟩ = some (.string e.k) := ((unhide hB).cell (p := ⟨w.heap.size, 0, none⟩) (by simp)).trans (by simp)
    have e1 : wr.cell? ⟨w.heap.size, 1, none⟩ = some (.string e.v) := ((unhide hB).cell (p := ⟨w.heap.size, 1, none⟩) (by simp)).trans (by simp)
    by_cases hlt : j < pos es e.k
    · have hje : j < es.length := by have := unhide PL; omega
      have hjn : j < n := by have := unhide LE; omega
      obtain ⟨b', off', he, d0, d1⟩ := ((unhide RE).below (unhide BW)).2 j hje
      injection he with he
      injection he with he1 he2
      subst he1 he2
      have hl := less_at hje hlt
      have TS := hide (takeG_snoc es j hje)
      have HTL := hide (show (es.take j).length = j by rw [List.length_take]; omega)
      generalize es[j] = em at *
      go_wp2_with fail
      go_quiet (fail)
      have O2 : wr.ownsRow (w.heap.size + 1) 48 2 (.slice (some ⟨g, 0, none⟩) j cap) j (ecs (es.take j)) := by have := unhide hO; unfold EOwns at this; rwa [unhide HTL] at this
      have hsz : w.heap.size + 1 ≤ wr.heap.size := by have := (unhide hB).size; simp at this; omega
      go_wp2_with (at_builtin; refine wpList_append_own _ rfl _ _ 38 rfl (w.heap.size + 1) 48 i0 (.agg #[.string ByteArray.empty, .string ByteArray.empty]) 2 32 Tryz.underlying38 hi0 hz0 hz1 hz2 rfl (by decide) _ _ _ rfl (World.ownsRow.alloc O2 _) ⟨wr.heap.size, 0, none⟩ 1 1 [.string em.k, .string em.v] rfl rfl (cells_new (vs := [.string em.k, .string em.v])) (by intro u hu; simp at hu; rcases hu with rfl | rfl <;> rfl) (by unfold maxLen; omega) (by omega) (by simp; omega) ?_)
      intro v3 w3 h1 h2 h3
      have O3 : EOwns w3 (w.heap.size + 1) v3 (es.take (j + 1)) := by
        rw [unhide TS]
        refine eapp ?_
        rw [unhide HTL]
        exact h1
      obtain ⟨g3, cap3, rfl, hg3⟩ := eowns_some O3 (fun h => by subst h; simp at h3)
      have hl3 : (es.take (j + 1)).length = j + 1 := by rw [List.length_take]; omega
      rw [hl3] at O3 ⊢
      have O4 := hide O3
      have B4 := hide (((bel_drewN (unhide hB) _).alloc hsz _).grown h2 (by simp; omega) (fun k hk => (O2.lt k hk).1))
      clear h1 h2 h3 O3 O2
      go_wp2_with fail
      go_roundw
      case rel => exact ⟨j + 1, g3, cap3, by go_num, rfl, by omega, unhide O4, unhide B4⟩
      case measure => simp [intOf]; omega
    · obtain rfl : j = pos es e.k := by omega
      have HTL := hide (show (es.take (pos es e.k)).length = pos es e.k by have := unhide PL; rw [List.length_take]; omega)
      have hsz : w.heap.size + 1 ≤ wr.heap.size := by have := (unhide hB).size; simp at this; omega
      have O2 := hide (show wr.ownsRow (w.heap.size + 1) 48 2 (.slice (some ⟨g, 0, none⟩) (pos es e.k) cap) (pos es e.k) (ecs (es.take (pos es e.k))) by have := unhide hO; unfold EOwns at this; rwa [unhide HTL] at this)
      by_cases hpn : pos es e.k < es.length
      · obtain ⟨b', off', he, d0, d1⟩ := ((unhide RE).below (unhide BW)).2 _ hpn
        injection he with he
        injection he with he1 he2
        subst he1 he2
        have hl : Op.bytesLess es[pos es e.k].k.toList e.k.toList = false := pos_at es e.k hpn
        have hjn : pos es e.k < n := by have := unhide LE; omega
        have hbl : b < w.heap.size := by obtain ⟨b2, o2, h2, c2, _⟩ := (unhide RE).2 _ hpn; injection h2 with h2; injection h2 with h2 _; subst h2; exact cell_lt c2
        have FD := hide (show (es[pos es e.k].k.toList == e.k.toList) = found es e.k by unfold found; rw [List.getElem?_eq_getElem hpn])
        generalize hp : pos es e.k = p at *
        go_wp2_with fail
        go_quiet (fail)
        have O2q := hide (show (wr.drewN nq).ownsRow (w.heap.size + 1) 48 2 (.slice (some ⟨g, 0, none⟩) p cap) p (ecs (es.take p)) from unhide O2)
        have B2q := hide (bel_drewN (unhide hB) nq)
        have e0q : (wr.drewN nq).cell? ⟨w.heap.size, 0, none⟩ = some (.string e.k) := e0
        have e1q : (wr.drewN nq).cell? ⟨w.heap.size, 1, none⟩ = some (.string e.v) := e1
        have hszq : w.heap.size + 1 ≤ (wr.drewN nq).heap.size := hsz
        have d0q : (wr.drewN nq).cell? ⟨b, off + p * 2, none⟩ = some (.string es[p].k) := d0
        clear O2 hO hB BW e0 e1 hsz d0 d1
        generalize wr.drewN nq = wq at *
        cases gone with
        | true =>
          have OX := hide (unhide O2q)
          have BY := hide (unhide B2q)
          have BX := hide (b1.trans ((unhide B2q).mono (by omega)))
          clear O2q B2q e1q
          by_cases hf : found es e.k = true
          · have hfe : (es[p].k.toList == e.k.toList) = true := by rw [unhide FD]; exact hf
            have ST := hide (show putE es e true = (es.take p) ++ es.drop (p + 1) by unfold putE stepE; rw [if_neg (by simp), hp, hf]; simp)
            go_wp2_with fail
            go_quiet (fail)
            obtain ⟨A, hA, hsrc⟩ := drop_src (k := (p + 1)) ((unhide RE).below (unhide BX)) hc
            have HN := hide (show (ecs (es.drop (p + 1))).length = (n - (p + 1)) * 2 by rw [ecs_len, List.length_drop, unhide LE])
            have hsX : w.heap.size + 1 ≤ wq.heap.size := by have := (unhide BY).size; simp at this; omega
            go_wp2_with (at_builtin; refine wpList_append_own _ rfl _ _ 38 rfl (w.heap.size + 1) 48 i0 (.agg #[.string ByteArray.empty, .string ByteArray.empty]) 2 32 Tryz.underlying38 hi0 hz0 hz1 hz2 rfl (by decide) _ _ _ rfl (show (wq.drewN nq).ownsRow (w.heap.size + 1) 48 2 (.slice (some ⟨g, 0, none⟩) p cap) p (ecs (es.take p)) from unhide OX) A (n - (p + 1)) (c - (p + 1)) (ecs (es.drop (p + 1))) rfl (unhide HN) (unhide hsrc) (ecs_one _) (by unfold maxLen; omega) (by omega) hsX ?_)
            intro v5 w5 h1 h2 h3
            have O5 : EOwns w5 w.heap.size v5 (putE es e true) := by
              rw [unhide ST]
              refine ownsRow_base2 ?_ (Nat.le_succ _)
              rw [ecs_append, List.length_append, List.length_drop, unhide LE, unhide HTL]
              exact h1
            obtain ⟨g5, cap5, rfl, _⟩ := eowns_some O5 (fun h => by first | exact h3 h | (subst h; simp at h3))
            have O6 := hide O5
            have B6 := hide (b1.trans (((bel_drewN (unhide BY) nq).grown h2 hsX (fun k hk => (World.ownsRow.lt (show (wq.drewN nq).ownsRow (w.heap.size + 1) 48 2 (.slice (some ⟨g, 0, none⟩) p cap) p (ecs (es.take p)) from unhide OX) k hk).1)).mono (by omega)))
            clear h1 h2 h3 O5
            go_wp2_with fail
            go_ret
            exact ⟨g5, cap5, rfl, unhide O6, unhide B6⟩
          · have hfe : (es[p].k.toList == e.k.toList) = false := by rw [unhide FD]; simpa using hf
            have hf : found es e.k = false := by simpa using hf
            have ST := hide (show putE es e true = (es.take p) ++ es.drop p by unfold putE stepE; rw [if_neg (by simp), hp, hf]; simp)
            go_wp2_with fail
            go_quiet (fail)
            obtain ⟨A, hA, hsrc⟩ := drop_src (k := p) ((unhide RE).below (unhide BX)) hc
            have HN := hide (show (ecs (es.drop p)).length = (n - p) * 2 by rw [ecs_len, List.length_drop, unhide LE])
            have hsX : w.heap.size + 1 ≤ wq.heap.size := by have := (unhide BY).size; simp at this; omega
            go_wp2_with (at_builtin; refine wpList_append_own _ rfl _ _ 38 rfl (w.heap.size + 1) 48 i0 (.agg #[.string ByteArray.empty, .string ByteArray.empty]) 2 32 Tryz.underlying38 hi0 hz0 hz1 hz2 rfl (by decide) _ _ _ rfl (show (wq.drewN nq).ownsRow (w.heap.size + 1) 48 2 (.slice (some ⟨g, 0, none⟩) p cap) p (ecs (es.take p)) from unhide OX) A (n - p) (c - p) (ecs (es.drop p)) rfl (unhide HN) (unhide hsrc) (ecs_one _) (by unfold maxLen; omega) (by omega) hsX ?_)
            intro v5 w5 h1 h2 h3
            have O5 : EOwns w5 w.heap.size v5 (putE es e true) := by
              rw [unhide ST]
              refine ownsRow_base2 ?_ (Nat.le_succ _)
              rw [ecs_append, List.length_append, List.length_drop, unhide LE, unhide HTL]
              exact h1
            obtain ⟨g5, cap5, rfl, _⟩ := eowns_some O5 (fun h => by first | exact h3 h | (subst h; simp at h3))
            have O6 := hide O5
            have B6 := hide (b1.trans (((bel_drewN (unhide BY) nq).grown h2 hsX (fun k hk => (World.ownsRow.lt (show (wq.drewN nq).ownsRow (w.heap.size + 1) 48 2 (.slice (some ⟨g, 0, none⟩) p cap) p (ecs (es.take p)) from unhide OX) k hk).1)).mono (by omega)))
            clear h1 h2 h3 O5
            go_wp2_with fail
            go_ret
            exact ⟨g5, cap5, rfl, unhide O6, unhide B6⟩
        | false =>
          go_wp2_with (at_builtin; refine wpList_append_own _ rfl _ _ 38 rfl (w.heap.size + 1) 48 i0 (.agg #[.string ByteArray.empty, .string ByteArray.empty]) 2 32 Tryz.underlying38 hi0 hz0 hz1 hz2 rfl (by decide) _ _ _ rfl (World.ownsRow.alloc (unhide O2q) _) ⟨wq.heap.size, 0, none⟩ 1 1 [.string e.k, .string e.v] rfl rfl (cells_new (vs := [.string e.k, .string e.v])) (by intro u hu; simp at hu; rcases hu with rfl | rfl <;> rfl) (by unfold maxLen; omega) (by omega) (by simp; omega) ?_)
          intro v3 w3 h1 h2 h3
          have O3 : EOwns w3 (w.heap.size + 1) v3 (es.take p ++ [e]) := by
            refine eapp ?_
            rw [unhide HTL]
            exact h1
          obtain ⟨g3, cap3, rfl, hg3⟩ := eowns_some O3 (fun h => by subst h; simp at h3)
          have hl3 : (es.take p ++ [e]).length = p + 1 := by rw [List.length_append, unhide HTL]; rfl
          unfold EOwns at O3
          rw [hl3] at O3 ⊢
          have OX := hide O3
          have bZ : Below (w.heap.size + 1) wq w3 := ((Below.refl _ _).alloc hszq _).grown h2 (by simp; omega) (fun k hk => ((unhide O2q).lt k hk).1)
          have BY := hide ((unhide B2q).trans bZ)
          have BX := hide (b1.trans ((unhide BY).mono (by omega)))
          have e0r := (bZ.cell (p := ⟨w.heap.size, 0, none⟩) (by show w.heap.size < w.heap.size + 1; omega)).trans e0q
          have d0r := (bZ.cell (p := ⟨b, off + p * 2, none⟩) (by show b < w.heap.size + 1; omega)).trans d0q
          clear h1 h2 h3 O3 bZ O2q B2q e0q e1q hl3 d0q
          by_cases hf : found es e.k = true
          · have hfe : (es[p].k.toList == e.k.toList) = true := by rw [unhide FD]; exact hf
            have ST := hide (show putE es e false = (es.take p ++ [e]) ++ es.drop (p + 1) by unfold putE stepE; rw [if_neg (by simp), hp, hf]; simp)
            go_wp2_with fail
            go_quiet (fail)
            obtain ⟨A, hA, hsrc⟩ := drop_src (k := (p + 1)) ((unhide RE).below (unhide BX)) hc
            have HN := hide (show (ecs (es.drop (p + 1))).length = (n - (p + 1)) * 2 by rw [ecs_len, List.length_drop, unhide LE])
            have hsX : w.heap.size + 1 ≤ w3.heap.size := by have := (unhide BY).size; simp at this; omega
            go_wp2_with (at_builtin; refine wpList_append_own _ rfl _ _ 38 rfl (w.heap.size + 1) 48 i0 (.agg #[.string ByteArray.empty, .string ByteArray.empty]) 2 32 Tryz.underlying38 hi0 hz0 hz1 hz2 rfl (by decide) _ _ _ rfl (show (w3.drewN nq).ownsRow (w.heap.size + 1) 48 2 (.slice (some ⟨g3, 0, none⟩) (p + 1) cap3) (p + 1) (ecs (es.take p ++ [e])) from unhide OX) A (n - (p + 1)) (c - (p + 1)) (ecs (es.drop (p + 1))) rfl (unhide HN) (unhide hsrc) (ecs_one _) (by unfold maxLen; omega) (by omega) hsX ?_)
            intro v5 w5 h1 h2 h3
            have O5 : EOwns w5 w.heap.size v5 (putE es e false) := by
              rw [unhide ST]
              refine ownsRow_base2 ?_ (Nat.le_succ _)
              rw [ecs_append, List.length_append, List.length_drop, unhide LE, List.length_append, unhide HTL]
              exact h1
            obtain ⟨g5, cap5, rfl, _⟩ := eowns_some O5 (fun h => by first | exact h3 h | (subst h; simp at h3))
            have O6 := hide O5
            have B6 := hide (b1.trans (((bel_drewN (unhide BY) nq).grown h2 hsX (fun k hk => (World.ownsRow.lt (show (w3.drewN nq).ownsRow (w.heap.size + 1) 48 2 (.slice (some ⟨g3, 0, none⟩) (p + 1) cap3) (p + 1) (ecs (es.take p ++ [e])) from unhide OX) k hk).1)).mono (by omega)))
            clear h1 h2 h3 O5
            go_wp2_with fail
            go_ret
            exact ⟨g5, cap5, rfl, unhide O6, unhide B6⟩
          · have hfe : (es[p].k.toList == e.k.toList) = false := by rw [unhide FD]; simpa using hf
            have hf : found es e.k = false := by simpa using hf
            have ST := hide (show putE es e false = (es.take p ++ [e]) ++ es.drop p by unfold putE stepE; rw [if_neg (by simp), hp, hf]; simp)
            go_wp2_with fail
            go_quiet (fail)
            obtain ⟨A, hA, hsrc⟩ := drop_src (k := p) ((unhide RE).below (unhide BX)) hc
            have HN := hide (show (ecs (es.drop p)).length = (n - p) * 2 by rw [ecs_len, List.length_drop, unhide LE])
            have hsX : w.heap.size + 1 ≤ w3.heap.size := by have := (unhide BY).size; simp at this; omega
            go_wp2_with (at_builtin; refine wpList_append_own _ rfl _ _ 38 rfl (w.heap.size + 1) 48 i0 (.agg #[.string ByteArray.empty, .string ByteArray.empty]) 2 32 Tryz.underlying38 hi0 hz0 hz1 hz2 rfl (by decide) _ _ _ rfl (show (w3.drewN nq).ownsRow (w.heap.size + 1) 48 2 (.slice (some ⟨g3, 0, none⟩) (p + 1) cap3) (p + 1) (ecs (es.take p ++ [e])) from unhide OX) A (n - p) (c - p) (ecs (es.drop p)) rfl (unhide HN) (unhide hsrc) (ecs_one _) (by unfold maxLen; omega) (by omega) hsX ?_)
            intro v5 w5 h1 h2 h3
            have O5 : EOwns w5 w.heap.size v5 (putE es e false) := by
              rw [unhide ST]
              refine ownsRow_base2 ?_ (Nat.le_succ _)
              rw [ecs_append, List.length_append, List.length_drop, unhide LE, List.length_append, unhide HTL]
              exact h1
            obtain ⟨g5, cap5, rfl, _⟩ := eowns_some O5 (fun h => by first | exact h3 h | (subst h; simp at h3))
            have O6 := hide O5
            have B6 := hide (b1.trans (((bel_drewN (unhide BY) nq).grown h2 hsX (fun k hk => (World.ownsRow.lt (show (w3.drewN nq).ownsRow (w.heap.size + 1) 48 2 (.slice (some ⟨g3, 0, none⟩) (p + 1) cap3) (p + 1) (ecs (es.take p ++ [e])) from unhide OX) k hk).1)).mono (by omega)))
            clear h1 h2 h3 O5
            go_wp2_with fail
            go_ret
            exact ⟨g5, cap5, rfl, unhide O6, unhide B6⟩
      · have hjn : n ≤ pos es e.k := by have := unhide LE; have := unhide PL; omega
        have hjm : pos es e.k ≤ n := by have := unhide LE; have := unhide PL; omega
        have FN := hide (show found es e.k = false by unfold found; rw [List.getElem?_eq_none (by have := unhide LE; omega)])
        generalize hp : pos es e.k = p at *
        have hd1 : decide (p < n) = false := decide_eq_false (by omega)
        have hd2 : decide ((p : Int) < (n : Int)) = false := decide_eq_false (by omega)
        go_wp2_with fail
        go_quiet (fail)
        have O2q := hide (show (wr.drewN nq).ownsRow (w.heap.size + 1) 48 2 (.slice (some ⟨g, 0, none⟩) p cap) p (ecs (es.take p)) from unhide O2)
        have B2q := hide (bel_drewN (unhide hB) nq)
        have e0q : (wr.drewN nq).cell? ⟨w.heap.size, 0, none⟩ = some (.string e.k) := e0
        have e1q : (wr.drewN nq).cell? ⟨w.heap.size, 1, none⟩ = some (.string e.v) := e1
        have hszq : w.heap.size + 1 ≤ (wr.drewN nq).heap.size := hsz
        clear O2 hO hB BW e0 e1 hsz
        generalize wr.drewN nq = wq at *
        cases gone with
        | true =>
          have OX := hide (unhide O2q)
          have BY := hide (unhide B2q)
          have BX := hide (b1.trans ((unhide B2q).mono (by omega)))
          clear O2q B2q e1q
          have ST := hide (show putE es e true = (es.take p) by unfold putE stepE; rw [if_neg (by simp), hp, unhide FN, List.drop_of_length_le (by have := unhide LE; simp; omega)]; simp)
          go_wp2_with fail
          go_quiet (fail)
          obtain ⟨A, hA, hsrc⟩ := drop_src (k := p) ((unhide RE).below (unhide BX)) hc
          have hsX : w.heap.size + 1 ≤ wq.heap.size := by have := (unhide BY).size; simp at this; omega
          go_wp2_with (at_builtin; refine wpList_append_own _ rfl _ _ 38 rfl (w.heap.size + 1) 48 i0 (.agg #[.string ByteArray.empty, .string ByteArray.empty]) 2 32 Tryz.underlying38 hi0 hz0 hz1 hz2 rfl (by decide) _ _ _ rfl (show (wq.drewN nq).ownsRow (w.heap.size + 1) 48 2 (.slice (some ⟨g, 0, none⟩) p cap) p (ecs (es.take p)) from unhide OX) A 0 (c - p) [] rfl rfl (fun j u h => by simp at h) (fun u h => by simp at h) (by unfold maxLen; omega) (by omega) hsX ?_)
          intro v5 w5 h1 h2 h3
          have O5 : EOwns w5 w.heap.size v5 (putE es e true) := by
            rw [unhide ST]
            refine ownsRow_base2 ?_ (Nat.le_succ _)
            rw [unhide HTL]
            simpa using h1
          obtain ⟨g5, cap5, rfl, _⟩ := eowns_some O5 (fun h => by first | exact h3 h | (subst h; simp at h3))
          have O6 := hide O5
          have B6 := hide (b1.trans (((bel_drewN (unhide BY) nq).grown h2 hsX (fun k hk => (World.ownsRow.lt (show (wq.drewN nq).ownsRow (w.heap.size + 1) 48 2 (.slice (some ⟨g, 0, none⟩) p cap) p (ecs (es.take p)) from unhide OX) k hk).1)).mono (by omega)))
          clear h1 h2 h3 O5
          go_wp2_with fail
          go_ret
          exact ⟨g5, cap5, rfl, unhide O6, unhide B6⟩
        | false =>
          go_wp2_with (at_builtin; refine wpList_append_own _ rfl _ _ 38 rfl (w.heap.size + 1) 48 i0 (.agg #[.string ByteArray.empty, .string ByteArray.empty]) 2 32 Tryz.underlying38 hi0 hz0 hz1 hz2 rfl (by decide) _ _ _ rfl (World.ownsRow.alloc (unhide O2q) _) ⟨wq.heap.size, 0, none⟩ 1 1 [.string e.k, .string e.v] rfl rfl (cells_new (vs := [.string e.k, .string e.v])) (by intro u hu; simp at hu; rcases hu with rfl | rfl <;> rfl) (by unfold maxLen; omega) (by omega) (by simp; omega) ?_)
          intro v3 w3 h1 h2 h3
          have O3 : EOwns w3 (w.heap.size + 1) v3 (es.take p ++ [e]) := by
            refine eapp ?_
            rw [unhide HTL]
            exact h1
          obtain ⟨g3, cap3, rfl, hg3⟩ := eowns_some O3 (fun h => by subst h; simp at h3)
          have hl3 : (es.take p ++ [e]).length = p + 1 := by rw [List.length_append, unhide HTL]; rfl
          unfold EOwns at O3
          rw [hl3] at O3 ⊢
          have OX := hide O3
          have bZ : Below (w.heap.size + 1) wq w3 := ((Below.refl _ _).alloc hszq _).grown h2 (by simp; omega) (fun k hk => ((unhide O2q).lt k hk).1)
          have BY := hide ((unhide B2q).trans bZ)
          have BX := hide (b1.trans ((unhide BY).mono (by omega)))
          have e0r := (bZ.cell (p := ⟨w.heap.size, 0, none⟩) (by show w.heap.size < w.heap.size + 1; omega)).trans e0q
          clear h1 h2 h3 O3 bZ O2q B2q e0q e1q hl3
          have ST := hide (show putE es e false = (es.take p ++ [e]) by unfold putE stepE; rw [if_neg (by simp), hp, unhide FN, List.drop_of_length_le (by have := unhide LE; simp; omega)]; simp)
          go_wp2_with fail
          go_quiet (fail)
          obtain ⟨A, hA, hsrc⟩ := drop_src (k := p) ((unhide RE).below (unhide BX)) hc
          have hsX : w.heap.size + 1 ≤ w3.heap.size := by have := (unhide BY).size; simp at this; omega
          go_wp2_with (at_builtin; refine wpList_append_own _ rfl _ _ 38 rfl (w.heap.size + 1) 48 i0 (.agg #[.string ByteArray.empty, .string ByteArray.empty]) 2 32 Tryz.underlying38 hi0 hz0 hz1 hz2 rfl (by decide) _ _ _ rfl (show (w3.drewN nq).ownsRow (w.heap.size + 1) 48 2 (.slice (some ⟨g3, 0, none⟩) (p + 1) cap3) (p + 1) (ecs (es.take p ++ [e])) from unhide OX) A 0 (c - p) [] rfl rfl (fun j u h => by simp at h) (fun u h => by simp at h) (by unfold maxLen; omega) (by omega) hsX ?_)
          intro v5 w5 h1 h2 h3
          have O5 : EOwns w5 w.heap.size v5 (putE es e false) := by
            rw [unhide ST]
            refine ownsRow_base2 ?_ (Nat.le_succ _)
            rw [List.length_append, unhide HTL]
            simpa using h1
          obtain ⟨g5, cap5, rfl, _⟩ := eowns_some O5 (fun h => by first | exact h3 h | (subst h; simp at h3))
          have O6 := hide O5
          have B6 := hide (b1.trans (((bel_drewN (unhide BY) nq).grown h2 hsX (fun k hk => (World.ownsRow.lt (show (w3.drewN nq).ownsRow (w.heap.size + 1) 48 2 (.slice (some ⟨g3, 0, none⟩) (p + 1) cap3) (p + 1) (ecs (es.take p ++ [e])) from unhide OX) k hk).1)).mono (by omega)))
          clear h1 h2 h3 O5
          go_wp2_with fail
          go_ret
          exact ⟨g5, cap5, rfl, unhide O6, unhide B6⟩
end Go.Proofs.YtdnjgbckkmbmfaaGreat

namespace Go.Proofs.YtdnjgbckkmbmfaaGreat
open Go.RowKit

structure TxD where
  kind : Int
  ses : Int
  key : ByteArray
  «to» : ByteArray
  val : ByteArray
def xv (d : TxD) : Value := .agg #[.int .i64 d.kind, .int .i64 d.ses, .string d.key, .string d.to, .string d.val]
def XRow (w : World) (a : Option Addr) (n : Nat) (ds : List TxD) : Prop :=
  ds.length = n ∧ ∀ i (hi : i < ds.length), ∃ b off, a = some ⟨b, off, none⟩ ∧ w.cell? ⟨b, off + i * 5, none⟩ = some (.int .i64 ds[i].kind) ∧ w.cell? ⟨b, off + i * 5 + 1, none⟩ = some (.int .i64 ds[i].ses) ∧ w.cell? ⟨b, off + i * 5 + 2, none⟩ = some (.string ds[i].key) ∧ w.cell? ⟨b, off + i * 5 + 3, none⟩ = some (.string ds[i].to) ∧ w.cell? ⟨b, off + i * 5 + 4, none⟩ = some (.string ds[i].val)
theorem XRow.below {w w' : World} {a : Option Addr} {n : Nat} {ds : List TxD} (h : XRow w a n ds) (hb : Below w.heap.size w w') : XRow w' a n ds := by
  refine ⟨h.1, fun i hi => ?_⟩
  obtain ⟨b, off, e, c0, c1, c2, c3, c4⟩ := h.2 i hi
  have hbl : b < w.heap.size := cell_lt c0
  exact ⟨b, off, e, (hb.cell (p := ⟨b, off + i * 5, none⟩) hbl).trans c0, (hb.cell (p := ⟨b, off + i * 5 + 1, none⟩) hbl).trans c1, (hb.cell (p := ⟨b, off + i * 5 + 2, none⟩) hbl).trans c2, (hb.cell (p := ⟨b, off + i * 5 + 3, none⟩) hbl).trans c3, (hb.cell (p := ⟨b, off + i * 5 + 4, none⟩) hbl).trans c4⟩
def xcs : List TxD → List Value
  | [] => []
  | d :: r => .int .i64 d.kind :: .int .i64 d.ses :: .string d.key :: .string d.to :: .string d.val :: xcs r
theorem xcs_at : ∀ (ds : List TxD) (i : Nat) (hi : i < ds.length), (xcs ds)[i * 5]? = some (.int .i64 ds[i].kind) ∧ (xcs ds)[i * 5 + 1]? = some (.int .i64 ds[i].ses) ∧ (xcs ds)[i * 5 + 2]? = some (.string ds[i].key) ∧ (xcs ds)[i * 5 + 3]? = some (.string ds[i].to) ∧ (xcs ds)[i * 5 + 4]? = some (.string ds[i].val)
  | [], _, hi => by simp at hi
  | d :: r, 0, _ => ⟨rfl, rfl, rfl, rfl, rfl⟩
  | d :: r, i + 1, hi => by
    have h := xcs_at r i (by simpa using hi)
    rw [show (i + 1) * 5 = i * 5 + 1 + 1 + 1 + 1 + 1 by omega, show i * 5 + 1 + 1 + 1 + 1 + 1 + 2 = i * 5 + 2 + 1 + 1 + 1 + 1 + 1 by omega, show i * 5 + 1 + 1 + 1 + 1 + 1 + 3 = i * 5 + 3 + 1 + 1 + 1 + 1 + 1 by omega, show i * 5 + 1 + 1 + 1 + 1 + 1 + 4 = i * 5 + 4 + 1 + 1 + 1 + 1 + 1 by omega]
    simp only [xcs, List.getElem?_cons_succ, List.getElem_cons_succ]
    exact h
theorem xcs_set (ds : List TxD) (i : Nat) (d : TxD) : xcs (ds.set i d) = ((((((xcs ds).set (i * 5) (.int .i64 d.kind)).set (i * 5 + 1) (.int .i64 d.ses)).set (i * 5 + 2) (.string d.key)).set (i * 5 + 3) (.string d.to)).set (i * 5 + 4) (.string d.val)) := by
  induction ds generalizing i with
  | nil => rfl
  | cons x r ih =>
    cases i with
    | zero => rfl
    | succ i =>
      rw [List.set_cons_succ, show (i + 1) * 5 = i * 5 + 1 + 1 + 1 + 1 + 1 by omega, show i * 5 + 1 + 1 + 1 + 1 + 1 + 2 = i * 5 + 2 + 1 + 1 + 1 + 1 + 1 by omega, show i * 5 + 1 + 1 + 1 + 1 + 1 + 3 = i * 5 + 3 + 1 + 1 + 1 + 1 + 1 by omega, show i * 5 + 1 + 1 + 1 + 1 + 1 + 4 = i * 5 + 4 + 1 + 1 + 1 + 1 + 1 by omega]
      simp only [xcs, List.set_cons_succ, ih]
abbrev XOwns (w : World) (B : Nat) (v : Value) (ds : List TxD) : Prop := w.ownsRow B 37 5 v ds.length (xcs ds)
theorem xrow_of_owns {w : World} {B n c : Nat} {a : Option Addr} {ds : List TxD} (h : XOwns w B (.slice a n c) ds) : XRow w a n ds := by
  have h' := h
  obtain ⟨hl, h⟩ := h
  rcases h with ⟨e, hn⟩ | ⟨g, cap, cur, e, hb, hh, hc, hm, hs, ht⟩
  · injection e with e1 e2 e3
    subst e1 e2 e3
    exact ⟨hn, fun i hi => absurd hi (by omega)⟩
  · injection e with e1 e2 e3
    subst e1 e2 e3
    refine ⟨rfl, fun i hi => ⟨g, 0, rfl, ?_, ?_, ?_, ?_, ?_⟩⟩
    · rw [Nat.zero_add, h'.cellAt (i * 5) (by omega), (xcs_at ds i hi).1]
    · rw [Nat.zero_add, h'.cellAt (i * 5 + 1) (by omega), (xcs_at ds i hi).2.1]
    · rw [Nat.zero_add, h'.cellAt (i * 5 + 2) (by omega), (xcs_at ds i hi).2.2.1]
    · rw [Nat.zero_add, h'.cellAt (i * 5 + 3) (by omega), (xcs_at ds i hi).2.2.2.1]
    · rw [Nat.zero_add, h'.cellAt (i * 5 + 4) (by omega), (xcs_at ds i hi).2.2.2.2]
theorem xowns_below {w w' : World} {B : Nat} {v : Value} {ds : List TxD} (h : XOwns w B v ds) (hb : Below w.heap.size w w') : XOwns w' B v ds := rb_ownsRow_below h hb
def noX : TxD := ⟨0, 0, ByteArray.empty, ByteArray.empty, ByteArray.empty⟩
def filX (ds : List TxD) (k : Nat) : List TxD := ds.take k ++ List.replicate (ds.length - k) noX
theorem filX_len (ds : List TxD) {k : Nat} (h : k ≤ ds.length) : (filX ds k).length = ds.length := by unfold filX; simp; omega
theorem filX_all (ds : List TxD) : filX ds ds.length = ds := by unfold filX; simp
theorem filX_set (ds : List TxD) (k : Nat) (h : k < ds.length) : (filX ds k).set k ds[k] = filX ds (k + 1) := rb_fil_set ds noX k h
theorem xcs_rep : ∀ n : Nat, xcs (List.replicate n noX) = (List.replicate n [Value.int .i64 0, .int .i64 0, .string ByteArray.empty, .string ByteArray.empty, .string ByteArray.empty]).flatten
  | 0 => rfl
  | n + 1 => by rw [List.replicate_succ, List.replicate_succ, List.flatten_cons, ← xcs_rep n]; rfl
theorem xmade (x0 x1 x2 x3 x4 : Value) : ∀ n : Nat, (madeCells #[x0, x1, x2, x3, x4] (n * 5)).toList = (List.replicate n [x0, x1, x2, x3, x4]).flatten := by
  intro n
  apply List.ext_getElem?
  intro j
  rw [show ∀ (k : Nat), (madeCells #[x0, x1, x2, x3, x4] (n * 5)).toList[k]? = if k < n * 5 then some (#[x0, x1, x2, x3, x4][k % 5]!) else none from fun k => by
    by_cases hk : k < n * 5 <;> simp [madeCells, hk]]
  induction n generalizing j with
  | zero => simp
  | succ n ih =>
    rw [List.replicate_succ, List.flatten_cons]
    match j with
    | 0 => simp
    | 1 => rw [if_pos (by omega)]; rfl
    | 2 => rw [if_pos (by omega)]; rfl
    | 3 => rw [if_pos (by omega)]; rfl
    | 4 => rw [if_pos (by omega)]; rfl
    | j + 5 =>
      rw [show ([x0, x1, x2, x3, x4] ++ (List.replicate n [x0, x1, x2, x3, x4]).flatten)[j + 5]? = (List.replicate n [x0, x1, x2, x3, x4]).flatten[j]? from rfl, ← ih j, Nat.add_mod_right]
      by_cases hj : j < n * 5
      · rw [if_pos hj, if_pos (by omega)]
      · rw [if_neg hj, if_neg (by omega)]
theorem xowns_made {w : World} {B g n : Nat} {ds : List TxD} (hn : ds.length = n) (h : w.ownsRow B 37 5 (.slice (some ⟨g, 0, none⟩) n n) n (madeCells #[Value.int .i64 0, .int .i64 0, .string ByteArray.empty, .string ByteArray.empty, .string ByteArray.empty] (n * 5)).toList) : XOwns w B (.slice (some ⟨g, 0, none⟩) n n) (filX ds 0) := by
  rw [xmade, ← xcs_rep] at h
  unfold XOwns filX
  rw [List.take_zero, List.nil_append, Nat.sub_zero, List.length_replicate, hn]
  exact h
theorem xowns_at {w : World} {B g n c : Nat} {ds : List TxD} (h : XOwns w B (.slice (some ⟨g, 0, none⟩) n c) ds) (i : Nat) (hi : i < ds.length) : w.cell? ⟨g, i * 5, none⟩ = some (.int .i64 ds[i].kind) ∧ w.cell? ⟨g, i * 5 + 1, none⟩ = some (.int .i64 ds[i].ses) ∧ w.cell? ⟨g, i * 5 + 2, none⟩ = some (.string ds[i].key) ∧ w.cell? ⟨g, i * 5 + 3, none⟩ = some (.string ds[i].to) ∧ w.cell? ⟨g, i * 5 + 4, none⟩ = some (.string ds[i].val) := by
  obtain rfl := (xrow_of_owns h).1
  exact ⟨(h.cellAt (i * 5) (by omega)).trans (xcs_at _ i hi).1, (h.cellAt (i * 5 + 1) (by omega)).trans (xcs_at _ i hi).2.1, (h.cellAt (i * 5 + 2) (by omega)).trans (xcs_at _ i hi).2.2.1, (h.cellAt (i * 5 + 3) (by omega)).trans (xcs_at _ i hi).2.2.2.1, (h.cellAt (i * 5 + 4) (by omega)).trans (xcs_at _ i hi).2.2.2.2⟩
theorem xowns_fz {w : World} {B g n c : Nat} {ds : List TxD} (h : XOwns w B (.slice (some ⟨g, 0, none⟩) n c) ds) (j : Nat) : w.frozen? ⟨g, j, none⟩ = false := by
  obtain rfl := (xrow_of_owns h).1
  exact h.frozenAt j
theorem xowns_store {w : World} {B g n c : Nat} {ds : List TxD} (h : XOwns w B (.slice (some ⟨g, 0, none⟩) n c) ds) (i : Nat) (d : TxD) :
    XOwns (((((w.setCell ⟨g, i * 5, none⟩ (.int .i64 d.kind)).setCell ⟨g, i * 5 + 1, none⟩ (.int .i64 d.ses)).setCell ⟨g, i * 5 + 2, none⟩ (.string d.key)).setCell ⟨g, i * 5 + 3, none⟩ (.string d.to)).setCell ⟨g, i * 5 + 4, none⟩ (.string d.val)) B (.slice (some ⟨g, 0, none⟩) n c) (ds.set i d) := by
  obtain rfl := (xrow_of_owns h).1
  obtain ⟨o1, _⟩ := World.ownsRow.stored h (i * 5) (.int .i64 d.kind)
  obtain ⟨o2, _⟩ := World.ownsRow.stored o1 (i * 5 + 1) (.int .i64 d.ses)
  obtain ⟨o3, _⟩ := World.ownsRow.stored o2 (i * 5 + 2) (.string d.key)
  obtain ⟨o4, _⟩ := World.ownsRow.stored o3 (i * 5 + 3) (.string d.to)
  obtain ⟨o5, _⟩ := World.ownsRow.stored o4 (i * 5 + 4) (.string d.val)
  unfold XOwns
  rw [xcs_set, List.length_set]
  exact o5
end Go.Proofs.YtdnjgbckkmbmfaaGreat

namespace Go.Proofs.YtdnjgbckkmbmfaaGreat
open Go.RowKit

structure RepD where
  code : Int
  time : Int
  val : ByteArray
  list : List EntD
def posV : List VerD → VerD → Nat
  | [], _ => 0
  | d :: r, x => if ltV d x then posV r x + 1 else 0
theorem posV_le : ∀ (ds : List VerD) (x : VerD), posV ds x ≤ ds.length
  | [], _ => Nat.le_refl _
  | d :: r, x => by
    unfold posV
    have := posV_le r x
    split <;> simp <;> omega
theorem posV_lt : ∀ (ds : List VerD) (x : VerD) (i : Nat) (hi : i < ds.length), i < posV ds x → ltV ds[i] x = true
  | [], _, _, hi, _ => by simp at hi
  | d :: r, x, i, hi, h => by
    unfold posV at h
    split at h
    · rename_i hl
      cases i with
      | zero => exact hl
      | succ i => exact posV_lt r x i (by simpa using hi) (by omega)
    · omega
theorem posV_at : ∀ (ds : List VerD) (x : VerD) (h : posV ds x < ds.length), ltV ds[posV ds x] x = false
  | [], _, h => by simp [posV] at h
  | d :: r, x, h => by
    by_cases hl : ltV d x = true
    · have e : posV (d :: r) x = posV r x + 1 := by rw [posV, if_pos hl]
      have h' : posV r x < r.length := by rw [e] at h; simpa using h
      have := posV_at r x h'
      simp only [e, List.getElem_cons_succ]
      exact this
    · have e : posV (d :: r) x = 0 := by rw [posV, if_neg hl]
      simp only [e, List.getElem_cons_zero]
      simpa using hl
theorem posV_step {ds : List VerD} {x : VerD} {i : Nat} (hi : i < ds.length) (h : i ≤ posV ds x) (hl : ltV ds[i] x = true) : i + 1 ≤ posV ds x := by
  rcases Nat.lt_or_ge i (posV ds x) with h1 | h1
  · omega
  · obtain rfl : i = posV ds x := by omega
    rw [posV_at ds x hi] at hl
    cases hl
theorem posV_end {ds : List VerD} {x : VerD} {i : Nat} (hi : i < ds.length) (h : i ≤ posV ds x) (hl : ltV ds[i] x = false) : i = posV ds x := by
  rcases Nat.lt_or_ge i (posV ds x) with h1 | h1
  · rw [posV_lt ds x i hi h1] at hl
    cases hl
  · omega
def sameV (a b : VerD) : Bool := decide (a.k = b.k) && decide (a.t = b.t)
def hitV (ds : List VerD) (x : VerD) : Bool := match ds[posV ds x]? with
  | some d => sameV d x
  | none => false
def insV (ds : List VerD) (x : VerD) : List VerD := ds.take (posV ds x) ++ x :: ds.drop (posV ds x + (if hitV ds x = true then 1 else 0))
theorem insV_len (ds : List VerD) (x : VerD) : (insV ds x).length ≤ ds.length + 1 := by
  unfold insV
  have := posV_le ds x
  simp only [List.length_append, List.length_take, List.length_cons, List.length_drop]
  omega
def kvE (d : KvD) : EntD := ⟨d.k, d.v⟩
theorem kcs_ecs : ∀ ds : List KvD, kcs ds = ecs (ds.map kvE)
  | [] => rfl
  | d :: r => by simp only [kcs, List.map_cons, ecs, kcs_ecs r, kvE]
def seenV (d : VsD) (s : SesD) : List EntD := s.ws.foldl (fun es x => putE es ⟨x.k, x.v⟩ x.g) ((entsAt d.list s.t).map kvE)
def getR (es : List EntD) (k : ByteArray) (t : Int) : RepD := es.foldl (fun r e => if e.k = k then ⟨0, t, e.v, []⟩ else r) ⟨5, t, ⟨#[]⟩, []⟩
def conV (d : VsD) (x : VerD) : Bool := d.list.any (fun y => decide (y.k = x.k) && decide (x.t < y.t)) || d.fen.any (fun f => decide (x.t < f.t) && inK f.f f.u x.k)
def repV (c t : Int) : RepD := ⟨c, t, ⟨#[]⟩, []⟩
def clS : SesD := ⟨false, 0, []⟩
def fenV (d : VsD) (f : FenD) (r : RepD) : VsD × RepD := if d.fen.length = 4096 then (d, repV 7 r.time) else (⟨d.next, d.list, d.fen ++ [f], d.ses⟩, r)
def fitA (a : TxD) : Bool := if a.kind = 2 ∨ a.kind = 4 ∨ a.kind = 5 then keyK a.key && valK a.val else if a.kind = 3 then decide (a.key.size ≤ 40) && decide (a.to.size ≤ 40) else true
def wrA (a : TxD) (t : Int) : VerD := if a.kind = 5 then ⟨a.key, t, ⟨#[]⟩, true⟩ else ⟨a.key, t, a.val, false⟩
def nulK (k : ByteArray) : ByteArray := k ++ ⟨#[0]⟩
def inV (d : VsD) (a : TxD) (i : Nat) (s : SesD) : VsD × RepD :=
  if a.kind = 2 then fenV d ⟨a.key, nulK a.key, s.t⟩ (getR (seenV d s) a.key s.t)
  else if a.kind = 3 then fenV d ⟨a.key, a.to, s.t⟩ ⟨0, s.t, ⟨#[]⟩, (seenV d s).filter (fun e => inK a.key a.to e.k)⟩
  else if a.kind = 4 ∨ a.kind = 5 then
    if 8 < (insV s.ws (wrA a s.t)).length then (d, repV 7 s.t) else (⟨d.next, d.list, d.fen, d.ses.set i ⟨s.o, s.t, insV s.ws (wrA a s.t)⟩⟩, repV 0 s.t)
  else if a.kind = 6 then
    if s.ws.any (conV d) = true then (⟨d.next, d.list, d.fen, d.ses.set i clS⟩, repV 9 s.t) else (⟨d.next, s.ws.foldl insV d.list, d.fen, d.ses.set i clS⟩, repV 0 s.t)
  else (⟨d.next, d.list, d.fen, d.ses.set i clS⟩, repV 0 s.t)
def sesV (d : VsD) (a : TxD) (i : Nat) (s : SesD) : VsD × RepD :=
  if a.kind = 1 then
    if s.o = true then (d, repV 8 0) else if d.next = 1000 then (d, repV 7 0) else (⟨d.next + 1, d.list, d.fen, d.ses.set i ⟨true, d.next, []⟩⟩, repV 0 d.next)
  else if s.o = false then (d, repV 10 0)
  else if fitA a = false then (d, repV 11 s.t)
  else inV d a i s
def stepV (d : VsD) (a : TxD) : VsD × RepD :=
  if ¬ (1 ≤ a.kind ∧ a.kind ≤ 7) then (d, repV 3 0)
  else if ¬ (0 ≤ a.ses ∧ a.ses ≤ 3) then (d, repV 4 0)
  else sesV d a a.ses.toNat (d.ses.getD a.ses.toNat clS)
def newV : VsD := ⟨1, [], [], List.replicate 4 clS⟩
def runV (acts : List TxD) : VsD × List RepD := acts.foldl (fun p a => ((stepV p.1 a).1, p.2 ++ [(stepV p.1 a).2])) (newV, [])
theorem runV_snoc (acts : List TxD) (a : TxD) : runV (acts ++ [a]) = ((stepV (runV acts).1 a).1, (runV acts).2 ++ [(stepV (runV acts).1 a).2]) := by
  unfold runV
  rw [List.foldl_append]
  rfl
theorem foldV_len : ∀ (acts : List TxD) (p : VsD × List RepD), (acts.foldl (fun p a => ((stepV p.1 a).1, p.2 ++ [(stepV p.1 a).2])) p).2.length = p.2.length + acts.length
  | [], p => rfl
  | a :: r, p => by rw [List.foldl_cons, foldV_len r]; simp only [List.length_append, List.length_cons, List.length_nil]; omega
theorem runV_len (acts : List TxD) : (runV acts).2.length = acts.length := by unfold runV; rw [foldV_len]; simp
end Go.Proofs.YtdnjgbckkmbmfaaGreat

namespace Go.Proofs.YtdnjgbckkmbmfaaGreat
open Go.RowKit Go.Maps

def dkTo (ds : List VerD) : Nat → List ByteArray
  | 0 => []
  | j + 1 => dkTo ds j ++ (if hi : j < ds.length then (if 0 < j ∧ (ds[j - 1]'(by omega)).k = ds[j].k then [] else [ds[j].k]) else [])
def dkeys (ds : List VerD) : List ByteArray := dkTo ds ds.length
theorem dk_again {ds : List VerD} {j : Nat} (hj : j < ds.length) (h : 0 < j ∧ (ds[j - 1]'(by omega)).k = ds[j].k) : dkTo ds (j + 1) = dkTo ds j := by
  simp only [dkTo, dif_pos hj, if_pos h, List.append_nil]
theorem dk_new {ds : List VerD} {j : Nat} (hj : j < ds.length) (h : ¬ (0 < j ∧ (ds[j - 1]'(by omega)).k = ds[j].k)) : dkTo ds (j + 1) = dkTo ds j ++ [ds[j].k] := by
  simp only [dkTo, dif_pos hj, if_neg h]
theorem ents_dk (ds : List VerD) (t : Int) : ∀ j, j ≤ ds.length → entsTo ds t j = (dkTo ds j).flatMap fun k => kvOf (verAt ds k t)
  | 0, _ => rfl
  | j + 1, hj => by
    have hj2 : j < ds.length := hj
    by_cases h : 0 < j ∧ (ds[j - 1]'(by omega)).k = ds[j].k
    · rw [dk_again hj2 h, ents_again hj2 h.1 h.2, ents_dk ds t j (by omega)]
    · rw [dk_new hj2 h, ents_new hj2 h, ents_dk ds t j (by omega), List.flatMap_append]
      simp
theorem dk_mem (ds : List VerD) (x : ByteArray) : ∀ j, j ≤ ds.length → (x ∈ dkTo ds j ↔ ∃ i, ∃ h : i < ds.length, i < j ∧ ds[i].k = x)
  | 0, _ => by simp [dkTo]
  | j + 1, hj => by
    have hj2 : j < ds.length := hj
    have ih := dk_mem ds x j (by omega)
    by_cases h : 0 < j ∧ (ds[j - 1]'(by omega)).k = ds[j].k
    · rw [dk_again hj2 h, ih]
      constructor
      · rintro ⟨i, hi, h1, h2⟩
        exact ⟨i, hi, by omega, h2⟩
      · rintro ⟨i, hi, h1, h2⟩
        by_cases e : i < j
        · exact ⟨i, hi, e, h2⟩
        · obtain rfl : i = j := by omega
          exact ⟨i - 1, by omega, by omega, h.2.trans h2⟩
    · rw [dk_new hj2 h, List.mem_append, ih, List.mem_singleton]
      constructor
      · rintro (⟨i, hi, h1, h2⟩ | h2)
        · exact ⟨i, hi, by omega, h2⟩
        · exact ⟨j, hj2, by omega, h2.symm⟩
      · rintro ⟨i, hi, h1, h2⟩
        by_cases e : i < j
        · exact .inl ⟨i, hi, e, h2⟩
        · obtain rfl : i = j := by omega
          exact .inr h2.symm
theorem okVs_lt2 {ds : List VerD} (h : okVs ds = true) {i j : Nat} (hj : j < ds.length) (hij : i < j) : ltV (ds[i]'(by omega)) ds[j] = true := List.pairwise_iff_getElem.1 (okVs_pair h) i j _ hj hij
theorem ltV_or {a b : VerD} (h : ltV a b = true) : ltK a.k b.k = true ∨ a.k = b.k := by
  unfold ltV at h
  simp only [Bool.or_eq_true, Bool.and_eq_true, decide_eq_true_eq] at h
  rcases h with h | h
  · exact .inl h
  · exact .inr h.1
theorem dk_rise {ds : List VerD} (ok : okVs ds = true) : ∀ j, j ≤ ds.length → (dkTo ds j).Pairwise fun a b => ltK a b = true
  | 0, _ => List.Pairwise.nil
  | j + 1, hj => by
    have hj2 : j < ds.length := hj
    have ih := dk_rise ok j (by omega)
    by_cases h : 0 < j ∧ (ds[j - 1]'(by omega)).k = ds[j].k
    · rw [dk_again hj2 h]
      exact ih
    · rw [dk_new hj2 h, List.pairwise_append]
      refine ⟨ih, List.pairwise_singleton _ _, fun a ha b hb => ?_⟩
      obtain rfl : b = ds[j].k := by simpa using hb
      obtain ⟨i, hi, hij, rfl⟩ := (dk_mem ds a j (by omega)).1 ha
      rcases ltV_or (okVs_lt2 ok hj2 hij) with e | e
      · exact e
      · exfalso
        have hp : ¬ (ds[j - 1]'(by omega)).k = ds[j].k := fun e => h ⟨by omega, e⟩
        by_cases e1 : i = j - 1
        · subst e1
          exact hp e
        · have h2 := ltV_or (okVs_lt2 ok (i := j - 1) hj2 (by omega))
          have h1 := ltV_or (okVs_lt2 ok (i := i) (j := j - 1) (by omega) (by omega))
          rcases h2 with h2 | h2
          · rcases h1 with h1 | h1
            · have := ltK_trans h1 h2
              rw [e, ltK_irr] at this
              exact absurd this (by decide)
            · rw [← h1, e, ltK_irr] at h2
              exact absurd h2 (by decide)
          · exact hp h2
theorem ltK_le {a b : ByteArray} (h : ltK a b = true) : a.data.toList < b.data.toList := by
  unfold ltK at h
  rw [ByteArray.toList_eq, ByteArray.toList_eq, bytesLess_eq] at h
  exact of_decide_eq_true h
def dkB (ds : List VerD) : List (List UInt8) := (dkeys ds).map fun k => k.data.toList
theorem dkB_lt {ds : List VerD} (ok : okVs ds = true) : (dkB ds).Pairwise fun a b => a < b := List.pairwise_map.2 ((dk_rise ok _ (Nat.le_refl _)).imp fun h => ltK_le h)
theorem dkB_nodup {ds : List VerD} (ok : okVs ds = true) : (dkB ds).Nodup := (dkB_lt ok).imp fun {a b} h e => by subst e; exact List.lt_irrefl _ h
theorem dkB_sort {ds : List VerD} (ok : okVs ds = true) {ss : List (List UInt8)} (h : ss.Perm (dkB ds)) : ss.mergeSort (fun x y => decide (x ≤ y)) = dkB ds := by
  rw [mergeSort_of_perm h]
  refine List.mergeSort_of_pairwise ((dkB_lt ok).imp fun h => ?_)
  exact decide_eq_true (List.le_of_lt h)
theorem dkB_mem {ds : List VerD} (x : List UInt8) : x ∈ dkB ds ↔ ∃ i, ∃ h : i < ds.length, ds[i].k.data.toList = x := by
  unfold dkB dkeys
  rw [List.mem_map]
  constructor
  · rintro ⟨k, hk, rfl⟩
    obtain ⟨i, hi, _, rfl⟩ := (dk_mem ds k _ (Nat.le_refl _)).1 hk
    exact ⟨i, hi, rfl⟩
  · rintro ⟨i, hi, rfl⟩
    exact ⟨_, (dk_mem ds _ _ (Nat.le_refl _)).2 ⟨i, hi, hi, rfl⟩, rfl⟩
theorem dkTo_len (ds : List VerD) : ∀ j, (dkTo ds j).length ≤ j
  | 0 => by simp [dkTo]
  | j + 1 => by
    have := dkTo_len ds j
    simp only [dkTo, List.length_append]
    split
    · split <;> simp <;> omega
    · simp; omega
theorem grp_ne {ds : List VerD} {k : ByteArray} : grp ds k ≠ [] ↔ ∃ i, ∃ h : i < ds.length, ds[i].k = k := by
  constructor
  · intro h
    obtain ⟨d, hd⟩ := List.exists_mem_of_ne_nil _ h
    obtain ⟨h1, h2⟩ := List.mem_filter.1 hd
    obtain ⟨i, hi, rfl⟩ := List.getElem_of_mem h1
    exact ⟨i, hi, of_decide_eq_true h2⟩
  · rintro ⟨i, hi, rfl⟩ e
    have : ds[i] ∈ grp ds ds[i].k := List.mem_filter.2 ⟨List.getElem_mem hi, decide_eq_true rfl⟩
    rw [e] at this
    exact absurd this (List.not_mem_nil)
end Go.Proofs.YtdnjgbckkmbmfaaGreat

namespace Go.Proofs.YtdnjgbckkmbmfaaGreat
open Go.RowKit

theorem vs_ne {a b : ByteArray} (h : ¬ a = b) : (a.toList == b.toList) = false := by
  cases hq : (a.toList == b.toList) with
  | false => rfl
  | true =>
    refine absurd ?_ h
    have e : a.toList = b.toList := by simpa using hq
    rw [ByteArray.toList_eq, ByteArray.toList_eq] at e
    cases a
    cases b
    simp_all
set_option maxHeartbeats 2000000 in
theorem l06Before_any (a b : VerD) (w : World) : Calls Tryz.prog 87 #[vv a, vv b] w fun e w' => e = .returned (.bool (ltV a b)) ∧ Below w.heap.size w w' := by
  obtain ⟨k, t, v, g⟩ := a
  obtain ⟨k', t', v', g'⟩ := b
  unfold vv
  have B0 := hide (show Below w.heap.size w ((w.alloc (.cells #[.string k, .int .i64 t, .string v, .bool g] 43)).alloc (.cells #[.string k', .int .i64 t', .string v', .bool g'] 43)) from ((Below.refl _ _).alloc (Nat.le_refl _) _).alloc (by simp) _)
  by_cases h : k = k'
  · subst h
    have F := hide (show decide (t < t') = ltV ⟨k, t, v, g⟩ ⟨k, t', v', g'⟩ by unfold ltV; rw [ltK_irr]; simp)
    generalize ltV ⟨k, t, v, g⟩ ⟨k, t', v', g'⟩ = R at *
    go_enter Tryz.func87, Tryz.ntmps87
    go_wp2_with fail
    go_ret
    exact ⟨ret_bool (unhide F), unhide B0⟩
  · have F := hide (show Op.bytesLess k.toList k'.toList = ltV ⟨k, t, v, g⟩ ⟨k', t', v', g'⟩ by unfold ltV ltK; simp [h])
    generalize ltV ⟨k, t, v, g⟩ ⟨k', t', v', g'⟩ = R at *
    have hne := vs_ne h
    go_enter Tryz.func87, Tryz.ntmps87
    go_wp2_with fail
    go_ret
    exact ⟨ret_bool (unhide F), unhide B0⟩
end Go.Proofs.YtdnjgbckkmbmfaaGreat

namespace Go.Proofs.YtdnjgbckkmbmfaaGreat
open Go.RowKit

end Go.Proofs.YtdnjgbckkmbmfaaGreat

namespace Go.Proofs.YtdnjgbckkmbmfaaGreat
open Go.RowKit Go.Maps

theorem ky_wpApp {P : Program} {ops : Array Oper} {rest : List Oper} {o : Oper} {a : Act} {w : World} {Q : Exit → Act → World → Prop}
    (hg : o.guard = none) (s x : Operand) (t : TypeId) (hop : o.op = Op.call { callee := Callee.builtin Builtin.append, args := #[s, x], argTypes := #[t, t] })
    (vs vx v' : Value) (w' : World) (hs : a.eval s = vs) (hx : a.eval x = vx) (hrun : (Builtin.append_ #[t, t] o.type #[vs, vx]).run P w = .ok v' w') (h : wpList P ops Q rest (a.put o.dst v') w') :
    wpList P ops Q (o :: rest) a w :=
  wpList_plain hg fun _ hK => by
    unfold Oper.wp
    simp [execOp, hop, resolve, invoke, builtin, hs, hx, hrun, Result.andThen]
    exact hK _ _ h
set_option maxRecDepth 100000 in
set_option maxHeartbeats 4000000 in
theorem l06Entries_nn (a : Option Addr) (n c : Nat) (ds : List VerD) (t : Int) (w : World) (hn : n ≤ 1000000) (hr : VRow w a n ds) :
    Calls Tryz.prog 44 #[.slice a n c, .int .i64 t] w fun e w' => ∃ v, e = .returned v ∧ KNn w' w.heap.size v (entsAt ds t) ∧ Below w.heap.size w w' := by
  have LN := hide hr.1
  have R := hide hr
  have H0 := hide (show KNn (w.alloc (.cells #[] 48)) w.heap.size (.slice (some ⟨w.heap.size, 0, none⟩) 0 0) [] from ⟨World.ownsRow_lit _ _ _ (Nat.le_refl _) (by unfold maxLen; simp) rfl, by simp⟩)
  have B0 := hide (show Below w.heap.size w (w.alloc (.cells #[] 48)) from (Below.refl _ _).alloc (Nat.le_refl _) _)
  clear hr
  go_enter Tryz.func44, Tryz.ntmps44
  go_wp2_with fail
  go_loopw [5, 6] (fun o' i wr => ∃ (j : Nat) (o : Value), o' = o ∧ i = .int .i64 (j : Int) ∧ j ≤ n ∧ Hid (KNn wr w.heap.size o (entsTo ds t j)) ∧ Hid (Below w.heap.size w wr)) (fun _ i _ => n - (intOf i).toNat)
  case atStart => exact ⟨0, _, rfl, rfl, Nat.zero_le _, unhide H0, unhide B0⟩
  case round =>
    clear H0 B0
    obtain ⟨j, o, rfl, rfl, hj, hH, hB⟩ := hrel
    have RR := hide ((unhide R).below (unhide hB))
    by_cases hlt : j < n
    · have hj2 : j < ds.length := by rw [unhide LN]; exact hlt
      have EA := hide (fun h1 h2 => ents_again (t := t) hj2 h1 h2)
      have EN := hide (fun h => ents_new (t := t) hj2 h)
      have hel := entsTo_len ds t j
      have AT := hide (fun (k : ByteArray) (u : World) (hb : Below wr.heap.size wr u) => (l06At_any a n c ds k t u (by omega) ((unhide RR).below hb)))
      obtain ⟨b, off, rfl, d0, _, _, _⟩ := (unhide RR).2 j hj2
      have d0' := d0
      generalize hpk : ds[j].k = pk at *
      by_cases h0 : 0 < j ∧ (ds[j - 1]'(by omega)).k = pk
      · obtain ⟨h0, hsame⟩ := h0
        obtain ⟨b1, off1, e1, p0, _, _, _⟩ := (unhide RR).2 (j - 1) (by omega)
        injection e1 with e1
        injection e1 with e1 e2
        subst e1 e2
        rw [hsame] at p0
        have Z := hide (unhide EA h0 hsame)
        have hj1 : ((j : Int) - 1).toNat = j - 1 := by omega
        have hj3 : (0 : Int) ≤ (j : Int) - 1 := by omega
        have hj4 : (j : Int) - 1 < (n : Int) := by omega
        have hwj : IntKind.i64.wrap ((j : Int) - 1) = (j : Int) - 1 := by rw [IntKind.wrap_i64]; omega
        have hg0 : (0 : Int) < (j : Int) := by omega
        clear EA EN AT RR R hsame
        go_wp2_with fail
        go_quiet (fail)
        go_wp2_with fail
        go_roundw
        case rel => exact ⟨j + 1, _, rfl, by go_num, by omega, by rw [unhide Z]; exact unhide hH, bel_drewN (unhide hB) _⟩
        case measure => simp [intOf]; omega
      · have ZN := hide (unhide EN h0)
        clear EA EN
        by_cases hp : 0 < j
        · obtain ⟨b1, off1, e1, p0, _, _, _⟩ := (unhide RR).2 (j - 1) (by omega)
          injection e1 with e1
          injection e1 with e1 e2
          subst e1 e2
          have hne : ¬ (ds[j - 1]'(by omega)).k = pk := fun e => h0 ⟨hp, e⟩
          generalize (ds[j - 1]'(by omega)).k = qk at *
          have hol : (qk.toList == pk.toList) = false := by simpa using fun e => hne (toList_inj e)
          have hj1 : ((j : Int) - 1).toNat = j - 1 := by omega
          have hj3 : (0 : Int) ≤ (j : Int) - 1 := by omega
          have hj4 : (j : Int) - 1 < (n : Int) := by omega
          have hwj : IntKind.i64.wrap ((j : Int) - 1) = (j : Int) - 1 := by rw [IntKind.wrap_i64]; omega
          have hg0 : (0 : Int) < (j : Int) := by omega
          clear RR R h0
          go_wp2_with fail
          go_quiet (fail)
          go_wp2_with fail
          generalize hWD : wr.drewN _ = WD at *
          refine (unhide AT pk WD (by rw [← hWD]; exact bel_drewN (Below.refl _ _) _)).mono ?_
          intro e w2 hv
          rcases hv with ⟨x, rfl, hva, hb2⟩ | ⟨x, rfl, hva, hb2⟩
          · have Z := hide (show entsTo ds t (j + 1) = entsTo ds t j by rw [unhide ZN, hva]; simp [kvOf])
            obtain ⟨xk, xt, xv, xg⟩ := x
            unfold vv
            have hb1 : Below wr.heap.size wr w2 := by rw [← hWD] at hb2; exact rb_bel_of_drewN hb2
            have hb3 := hb1.trans (((Below.refl _ _).alloc (Nat.le_refl _) (.cells #[.string xk, .int .i64 xt, .string xv, .bool xg] 43)).mono hb1.size)
            have HN := hide (show KNn _ _ _ _ from ⟨kowns_below (unhide hH).1 hb3, (unhide hH).2⟩)
            have BN := hide ((unhide hB).trans (hb3.mono (unhide hB).size))
            clear hb1 hb2 hb3 hva ZN AT hH
            go_wp2_with fail
            go_roundw
            case rel => exact ⟨j + 1, _, rfl, by go_num, by omega, by rw [unhide Z]; exact unhide HN, unhide BN⟩
            case measure => simp [intOf]; omega
          · have Z := hide (show entsTo ds t (j + 1) = entsTo ds t j ++ [⟨x.k, x.v⟩] by rw [unhide ZN, hva]; simp [kvOf])
            obtain ⟨xk, xt, xv, xg⟩ := x
            simp only at Z
            unfold vv
            have hb1 : Below wr.heap.size wr w2 := by rw [← hWD] at hb2; exact rb_bel_of_drewN hb2
            have hb3 := hb1.trans (((Below.refl _ _).alloc (Nat.le_refl _) (.cells #[.string xk, .int .i64 xt, .string xv, .bool xg] 43)).mono hb1.size)
            have HN := kowns_below (unhide hH).1 hb3
            have BN := (unhide hB).trans (hb3.mono (unhide hB).size)
            clear hb1 hb2 hb3 hva ZN AT hH
            have KX := heap_alloc_new w2 (.cells #[.string xk, .int .i64 xt, .string xv, .bool xg] 43)
            have x0 : (w2.alloc (.cells #[.string xk, .int .i64 xt, .string xv, .bool xg] 43)).cell? ⟨w2.heap.size, 0, none⟩ = some (.string xk) := (heap_at KX 0).1
            have x2 : (w2.alloc (.cells #[.string xk, .int .i64 xt, .string xv, .bool xg] 43)).cell? ⟨w2.heap.size, 2, none⟩ = some (.string xv) := (heap_at KX 2).1
            clear KX
            go_upto_region 8 with fail
            generalize (w2.alloc (.cells #[.string xk, .int .i64 xt, .string xv, .bool xg] 43)) = W3 at *
            generalize w2.heap.size = bx at *
            obtain ⟨v', w', hr', ho', hg', hn'⟩ := ky_appN (d := ⟨xk, xv⟩) HN (by omega) BN.size
            have BF := hide (((BN.alloc BN.size _)).grown hg' (by have := BN.size; simp; omega) (fun k hk => (HN.lt k hk).1))
            have HF := hide (show KNn w' w.heap.size v' (entsTo ds t (j + 1)) by rw [unhide Z]; exact ⟨ho', hn'⟩)
            clear HN BN Z ho' hg' hn'
            simp only at hr'
            go_wp2_with (at_builtin; refine ky_wpApp rfl (.tmp 44) (.tmp 50) 38 rfl _ _ _ w' rfl rfl hr' ?_)
            go_roundw
            case rel => exact ⟨j + 1, _, rfl, by go_num, by omega, unhide HF, unhide BF⟩
            case measure => simp [intOf]; omega
        · obtain rfl : j = 0 := by omega
          have d00 : wr.cell? ⟨b, off, none⟩ = some (.string pk) := by simpa using d0
          clear RR R h0 hp
          go_wp2_with fail
          go_quiet (fail)
          go_wp2_with fail
          generalize hWD : wr.drewN _ = WD at *
          refine (unhide AT pk WD (by rw [← hWD]; exact bel_drewN (Below.refl _ _) _)).mono ?_
          intro e w2 hv
          rcases hv with ⟨x, rfl, hva, hb2⟩ | ⟨x, rfl, hva, hb2⟩
          · have Z := hide (show entsTo ds t (0 + 1) = entsTo ds t 0 by rw [unhide ZN, hva]; simp [kvOf])
            obtain ⟨xk, xt, xv, xg⟩ := x
            unfold vv
            have hb1 : Below wr.heap.size wr w2 := by rw [← hWD] at hb2; exact rb_bel_of_drewN hb2
            have hb3 := hb1.trans (((Below.refl _ _).alloc (Nat.le_refl _) (.cells #[.string xk, .int .i64 xt, .string xv, .bool xg] 43)).mono hb1.size)
            have HN := hide (show KNn _ _ _ _ from ⟨kowns_below (unhide hH).1 hb3, (unhide hH).2⟩)
            have BN := hide ((unhide hB).trans (hb3.mono (unhide hB).size))
            clear hb1 hb2 hb3 hva ZN AT hH
            go_wp2_with fail
            go_roundw
            case rel => exact ⟨0 + 1, _, rfl, by go_num, by omega, by rw [unhide Z]; exact unhide HN, unhide BN⟩
            case measure => simp [intOf]; omega
          · have Z := hide (show entsTo ds t (0 + 1) = entsTo ds t 0 ++ [⟨x.k, x.v⟩] by rw [unhide ZN, hva]; simp [kvOf])
            obtain ⟨xk, xt, xv, xg⟩ := x
            simp only at Z
            unfold vv
            have hb1 : Below wr.heap.size wr w2 := by rw [← hWD] at hb2; exact rb_bel_of_drewN hb2
            have hb3 := hb1.trans (((Below.refl _ _).alloc (Nat.le_refl _) (.cells #[.string xk, .int .i64 xt, .string xv, .bool xg] 43)).mono hb1.size)
            have HN := kowns_below (unhide hH).1 hb3
            have BN := (unhide hB).trans (hb3.mono (unhide hB).size)
            clear hb1 hb2 hb3 hva ZN AT hH
            have KX := heap_alloc_new w2 (.cells #[.string xk, .int .i64 xt, .string xv, .bool xg] 43)
            have x0 : (w2.alloc (.cells #[.string xk, .int .i64 xt, .string xv, .bool xg] 43)).cell? ⟨w2.heap.size, 0, none⟩ = some (.string xk) := (heap_at KX 0).1
            have x2 : (w2.alloc (.cells #[.string xk, .int .i64 xt, .string xv, .bool xg] 43)).cell? ⟨w2.heap.size, 2, none⟩ = some (.string xv) := (heap_at KX 2).1
            clear KX
            go_upto_region 8 with fail
            generalize (w2.alloc (.cells #[.string xk, .int .i64 xt, .string xv, .bool xg] 43)) = W3 at *
            generalize w2.heap.size = bx at *
            obtain ⟨v', w', hr', ho', hg', hn'⟩ := ky_appN (d := ⟨xk, xv⟩) HN (by omega) BN.size
            have BF := hide (((BN.alloc BN.size _)).grown hg' (by have := BN.size; simp; omega) (fun k hk => (HN.lt k hk).1))
            have HF := hide (show KNn w' w.heap.size v' (entsTo ds t (0 + 1)) by rw [unhide Z]; exact ⟨ho', hn'⟩)
            clear HN BN Z ho' hg' hn'
            simp only at hr'
            go_wp2_with (at_builtin; refine ky_wpApp rfl (.tmp 44) (.tmp 50) 38 rfl _ _ _ w' rfl rfl hr' ?_)
            go_roundw
            case rel => exact ⟨0 + 1, _, rfl, by go_num, by omega, unhide HF, unhide BF⟩
            case measure => simp [intOf]; omega
    · obtain rfl : j = n := by omega
      have Z := hide (show KNn wr w.heap.size u5 (entsAt ds t) by
        have := unhide hH
        rw [← unhide LN] at this
        exact this)
      go_wp2_with fail
      go_ret
      exact ⟨_, rfl, unhide Z, unhide hB⟩
end Go.Proofs.YtdnjgbckkmbmfaaGreat

namespace Go.Proofs.YtdnjgbckkmbmfaaGreat
open Go.RowKit

theorem app_at {P : Program} {w : World} {B : Nat} (t ty e : TypeId) {i : TypeInfo} {z : Value} {size bytes : Nat} (ht : P.underlying t = some (.slice e)) (hi : P.info? e = some i) (hz : i.zero = some z)
    (hsize : i.size = size) (hby : i.bytes = bytes) (hzs : z.cells.size = size) (hsz : 0 < size)
    {v : Value} {n : Nat} {xs : List Value} (hown : w.ownsRow B e size v n xs)
    (a : Addr) (m c : Nat) (news : List Value) (hl : news.length = m * size) (hnews : ∀ j u, news[j]? = some u → w.cell? (a.add j) = some u) (h1 : ∀ u ∈ news, u.oneCell' = true)
    (h63 : n + m ≤ maxLen) (hbytes : (n + m) * bytes ≤ 140737488355328) (hbase : B ≤ w.heap.size) (hm : v = .slice none 0 0 → 0 < m) :
    ∃ v' w', (Builtin.append_ #[t, t] ty #[v, .slice (some a) m c]).run P w = .ok v' w' ∧ w'.ownsRow B e size v' (n + m) (xs ++ news) ∧ w.grownBy w' v.ownBlock ∧ v' ≠ .slice none 0 0 ∧ (v'.ownBlock = v.ownBlock ∨ v'.ownBlock = some w.heap.size) := by
  obtain ⟨v', w', hr, ho', hg, hnil⟩ := run_append_own (P := P) (w := w) B t ty e i z size bytes ht hi hz hsize hby hzs hsz v n xs hown a m c news hl hnews h1 h63 hbytes hbase
  refine ⟨v', w', hr, ho', hg, fun e => by have h1 := hnil.1 e; have := hm h1.1; omega, ?_⟩
  subst hsize
  subst hby
  unfold maxLen at h63
  have hbm : m * i.bytes ≤ (n + m) * i.bytes := Nat.mul_le_mul_right _ (by omega)
  rcases hown.2 with ⟨rfl, h0⟩ | ⟨g', cap', cur, rfl, hbg, hgg, hnc, hcm, hcs, htake⟩
  · have h := run_append_nil (P := P) (w := w) t ty e i z ht hi hz a m c news hl hnews (hm rfl) (by omega) (by omega)
    rw [hr] at h
    injection h with h _
    subst h
    exact .inr rfl
  · by_cases hroom : n + m ≤ cap'
    · have hk : n * i.size + m * i.size ≤ cap' * i.size := by rw [← Nat.add_mul]; exact Nat.mul_le_mul_right _ hroom
      have h := run_append_room (P := P) (w := w) t ty e i ht hi g' n cap' cur hgg a m c news hl hnews h1 hroom (by rw [hcs, hl]; exact hk)
      rw [hr] at h
      injection h with h _
      subst h
      exact .inl rfl
    · have h := run_append_grow (P := P) (w := w) t ty e i z ht hi hz ⟨g', 0, none⟩ n cap' xs hown.1 (fun j u hu => by
          have hj : j < n * i.size := by rw [← hown.1]; exact (List.getElem?_eq_some_iff.1 hu).1
          have e2 : (⟨g', 0, none⟩ : Addr).add j = ⟨g', j, none⟩ := by unfold Addr.add; split <;> simp_all
          rw [e2, hown.cellAt j hj, hu]) a m c news hl hnews (by omega) (by omega) (growslice_fits (by omega) hbytes)
      rw [hr] at h
      injection h with h _
      subst h
      exact .inr rfl
end Go.Proofs.YtdnjgbckkmbmfaaGreat

namespace Go.Proofs.YtdnjgbckkmbmfaaGreat
open Go.RowKit

theorem app_src {P : Program} {w : World} {B : Nat} (t ty e : TypeId) {i : TypeInfo} {z : Value} {size bytes : Nat} (ht : P.underlying t = some (.slice e)) (hi : P.info? e = some i) (hz : i.zero = some z)
    (hsize : i.size = size) (hby : i.bytes = bytes) (hzs : z.cells.size = size) (hsz : 0 < size)
    {v : Value} {n : Nat} {xs : List Value} (hown : w.ownsRow B e size v n xs) (hv : v ≠ .slice none 0 0)
    (a : Option Addr) (m c : Nat) (news : List Value) (hl : news.length = m * size) (hnews : ∀ A, a = some A → ∀ j u, news[j]? = some u → w.cell? (A.add j) = some u) (hc : a = none → m = 0 ∧ c = 0) (h1 : ∀ u ∈ news, u.oneCell' = true)
    (h63 : n + m ≤ maxLen) (hbytes : (n + m) * bytes ≤ 140737488355328) (hbase : B ≤ w.heap.size) :
    ∃ v' w', (Builtin.append_ #[t, t] ty #[v, .slice a m c]).run P w = .ok v' w' ∧ w'.ownsRow B e size v' (n + m) (xs ++ news) ∧ w.grownBy w' v.ownBlock ∧ v' ≠ .slice none 0 0 ∧ (v'.ownBlock = v.ownBlock ∨ v'.ownBlock = some w.heap.size) := by
  cases a with
  | none =>
    obtain ⟨rfl, rfl⟩ := hc rfl
    obtain rfl : news = [] := List.eq_nil_of_length_eq_zero (by rw [hl]; simp)
    rw [List.append_nil, Nat.add_zero]
    subst hsize
    exact ⟨v, w, run_append_owned_none (P := P) w B t ty e i i.size ht hi _ _ _ hown, hown, ⟨rfl, rfl, rfl, Nat.le_refl _, fun _ _ _ => rfl⟩, hv, .inl rfl⟩
  | some A => exact app_at t ty e ht hi hz hsize hby hzs hsz hown A m c news hl (hnews A rfl) h1 h63 hbytes hbase (fun h => absurd h hv)
theorem vrow_src {w : World} {A : Addr} {n : Nat} {ds : List VerD} (h : VRow w (some A) n ds) : ∀ t u, (vcs ds)[t]? = some u → w.cell? (A.add t) = some u := by
  intro t u hu
  have hl : t < ds.length * 4 := by
    have := (List.getElem?_eq_some_iff.1 hu).1
    rwa [vcs_len] at this
  obtain ⟨m, r, hr, rfl⟩ : ∃ m r, r < 4 ∧ t = m * 4 + r := ⟨t / 4, t % 4, Nat.mod_lt _ (by omega), by omega⟩
  have hm : m < ds.length := by omega
  obtain ⟨b, off, e, c0, c1, c2, c3⟩ := h.2 m hm
  injection e with e
  subst e
  rw [Addr.add_lit]
  obtain ⟨a0, a1, a2, a3⟩ := vcs_at ds m hm
  match r, hr with
  | 0, _ => rw [Nat.add_zero] at hu ⊢; rw [a0] at hu; rw [c0, ← hu]
  | 1, _ => rw [a1] at hu; rw [← Nat.add_assoc, c1, ← hu]
  | 2, _ => rw [a2] at hu; rw [← Nat.add_assoc, c2, ← hu]
  | 3, _ => rw [a3] at hu; rw [← Nat.add_assoc, c3, ← hu]
theorem frow_src {w : World} {A : Addr} {n : Nat} {ds : List FenD} (h : FRow w (some A) n ds) : ∀ t u, (fcs ds)[t]? = some u → w.cell? (A.add t) = some u := by
  intro t u hu
  have hl : t < ds.length * 3 := by
    have := (List.getElem?_eq_some_iff.1 hu).1
    rwa [fcs_len] at this
  obtain ⟨m, r, hr, rfl⟩ : ∃ m r, r < 3 ∧ t = m * 3 + r := ⟨t / 3, t % 3, Nat.mod_lt _ (by omega), by omega⟩
  have hm : m < ds.length := by omega
  obtain ⟨b, off, e, c0, c1, c2⟩ := h.2 m hm
  injection e with e
  subst e
  rw [Addr.add_lit]
  obtain ⟨a0, a1, a2⟩ := fcs_at ds m hm
  match r, hr with
  | 0, _ => rw [Nat.add_zero] at hu ⊢; rw [a0] at hu; rw [c0, ← hu]
  | 1, _ => rw [a1] at hu; rw [← Nat.add_assoc, c1, ← hu]
  | 2, _ => rw [a2] at hu; rw [← Nat.add_assoc, c2, ← hu]
theorem vrow_none {w : World} {n : Nat} {ds : List VerD} (h : VRow w none n ds) : n = 0 ∧ ds = [] := by
  have h0 : ds.length = 0 := by
    rcases Nat.eq_zero_or_pos ds.length with h' | h'
    · exact h'
    · obtain ⟨_, _, e, _⟩ := h.2 0 h'; cases e
  exact ⟨by have := h.1; omega, List.eq_nil_of_length_eq_zero h0⟩
theorem frow_none {w : World} {n : Nat} {ds : List FenD} (h : FRow w none n ds) : n = 0 ∧ ds = [] := by
  have h0 : ds.length = 0 := by
    rcases Nat.eq_zero_or_pos ds.length with h' | h'
    · exact h'
    · obtain ⟨_, _, e, _⟩ := h.2 0 h'; cases e
  exact ⟨by have := h.1; omega, List.eq_nil_of_length_eq_zero h0⟩
theorem owns_form {w : World} {B e s n : Nat} {v : Value} {cs : List Value} (h : w.ownsRow B e s v n cs) (hv : v ≠ .slice none 0 0) : ∃ g c, v = .slice (some ⟨g, 0, none⟩) n c ∧ B ≤ g ∧ g < w.heap.size ∧ n ≤ c := by
  rcases h.2 with ⟨e, _⟩ | ⟨g, cap, cur, e, hb, hh, hc, _⟩
  · exact absurd e hv
  · exact ⟨g, cap, e, hb, (Array.getElem?_eq_some_iff.1 hh).1, hc⟩
theorem v_appS {w : World} {B : Nat} {v : Value} {ds es : List VerD} {a : Option Addr} {m c : Nat} (ty : TypeId) (ho : VOwns w B v ds) (hv : v ≠ .slice none 0 0) (hr : VRow w a m es) (hc : a = none → c = 0) (hz : ds.length + m ≤ 2000000) (hB : B ≤ w.heap.size) :
    ∃ g k w', (Builtin.append_ #[25, 25] ty #[v, .slice a m c]).run Tryz.prog w = .ok (.slice (some ⟨g, 0, none⟩) (ds.length + m) k) w' ∧ VOwns w' B (.slice (some ⟨g, 0, none⟩) (ds.length + m) k) (ds ++ es) ∧ w.grownBy w' v.ownBlock ∧ (some g = v.ownBlock ∨ g = w.heap.size) := by
  obtain ⟨i0, hi0, hz0, hz1, hz2⟩ := info_parts Tryz.infoVersion
  obtain ⟨v', w', hrun, ho', hg, hnil, loc⟩ := app_src (P := Tryz.prog) (w := w) (B := B) 25 ty 43 Tryz.underlying25 hi0 hz0 hz1 hz2 rfl (by decide) ho hv a m c (vcs es) (by rw [vcs_len, hr.1]) (fun A hA => by subst hA; exact vrow_src hr) (fun h => by subst h; exact ⟨(vrow_none hr).1, hc rfl⟩) (vcs_one _) (by unfold maxLen; omega) (by omega) hB
  obtain ⟨g, k, rfl, _⟩ := owns_form ho' hnil
  refine ⟨g, k, w', hrun, ?_, hg, ?_⟩
  · unfold VOwns
    rw [List.length_append, vcs_append, hr.1]
    exact ho'
  · rcases loc with h | h
    · exact .inl h
    · injection h with h
      exact .inr h
theorem f_appS {w : World} {B : Nat} {v : Value} {ds es : List FenD} {a : Option Addr} {m c : Nat} (ty : TypeId) (ho : FOwns w B v ds) (hv : v ≠ .slice none 0 0) (hr : FRow w a m es) (hc : a = none → c = 0) (hz : ds.length + m ≤ 2000000) (hB : B ≤ w.heap.size) :
    ∃ g k w', (Builtin.append_ #[26, 26] ty #[v, .slice a m c]).run Tryz.prog w = .ok (.slice (some ⟨g, 0, none⟩) (ds.length + m) k) w' ∧ FOwns w' B (.slice (some ⟨g, 0, none⟩) (ds.length + m) k) (ds ++ es) ∧ w.grownBy w' v.ownBlock ∧ (some g = v.ownBlock ∨ g = w.heap.size) := by
  obtain ⟨i0, hi0, hz0, hz1, hz2⟩ := info_parts Tryz.infoFence
  obtain ⟨v', w', hrun, ho', hg, hnil, loc⟩ := app_src (P := Tryz.prog) (w := w) (B := B) 26 ty 85 Tryz.underlying26 hi0 hz0 hz1 hz2 rfl (by decide) ho hv a m c (fcs es) (by rw [fcs_len, hr.1]) (fun A hA => by subst hA; exact frow_src hr) (fun h => by subst h; exact ⟨(frow_none hr).1, hc rfl⟩) (fcs_one _) (by unfold maxLen; omega) (by omega) hB
  obtain ⟨g, k, rfl, _⟩ := owns_form ho' hnil
  refine ⟨g, k, w', hrun, ?_, hg, ?_⟩
  · unfold FOwns
    rw [List.length_append, fcs_append, hr.1]
    exact ho'
  · rcases loc with h | h
    · exact .inl h
    · injection h with h
      exact .inr h
theorem vrow_one (w : World) (d : VerD) : VRow (w.alloc (.cells #[.string d.k, .int .i64 d.t, .string d.v, .bool d.g] 43)) (some ⟨w.heap.size, 0, none⟩) 1 [d] := by
  refine ⟨rfl, fun i hi => ⟨w.heap.size, 0, rfl, ?_⟩⟩
  obtain rfl : i = 0 := by simpa using hi
  simp
theorem frow_one (w : World) (d : FenD) : FRow (w.alloc (.cells #[.string d.f, .string d.u, .int .i64 d.t] 85)) (some ⟨w.heap.size, 0, none⟩) 1 [d] := by
  refine ⟨rfl, fun i hi => ⟨w.heap.size, 0, rfl, ?_⟩⟩
  obtain rfl : i = 0 := by simpa using hi
  simp
theorem vdrop_src {w : World} {b off n c k : Nat} {ds : List VerD} (hE : VRow w (some ⟨b, off, none⟩) n ds) (hc : n ≤ c) (hk : k ≤ n) : ∃ A : Addr, (if c = k then some (⟨b, off, none⟩ : Addr) else some ⟨b, off + k * 4, none⟩) = some A ∧ VRow w (some A) (n - k) (ds.drop k) := by
  by_cases h : c = k
  · exact ⟨⟨b, off, none⟩, by simp [h], ⟨by rw [List.length_drop, hE.1], fun i hi => by rw [List.length_drop] at hi; have := hE.1; omega⟩⟩
  · refine ⟨⟨b, off + k * 4, none⟩, by simp [h], ⟨by rw [List.length_drop, hE.1], fun i hi => ?_⟩⟩
    rw [List.length_drop] at hi
    obtain ⟨b', off', e, q⟩ := hE.2 (k + i) (by omega)
    injection e with e
    injection e with e1 e2
    subst e1 e2
    refine ⟨_, _, rfl, ?_⟩
    rw [List.getElem_drop, show off + k * 4 + i * 4 = off + (k + i) * 4 by omega]
    exact q
end Go.Proofs.YtdnjgbckkmbmfaaGreat
