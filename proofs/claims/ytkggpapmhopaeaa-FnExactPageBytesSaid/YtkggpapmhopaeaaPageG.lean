/-
  A change done to what a page is.
-/
import Derived.Test.YtkggpapmhopaeaaPageE
import Derived.Test.YtkggpapmhopaeaaPageF
import Derived.Deep.DeepCutAuto
namespace Go.Proofs.Ytkggpapmhopaeaa
open Go.RowKit

theorem bel_of_drew {B : Nat} {w w' : World} (h : Below B w.drew w') : Below B w w' := ⟨h.os, h.tape, h.output, h.size, h.block⟩
theorem bel_of_drewN {B q : Nat} {w w' : World} (h : Below B (w.drewN q) w') : Below B w w' := ⟨h.os, h.tape, h.output, h.size, h.block⟩
/-- What a page is behind changes, with entries of the call's own. -/
structure Sett (w : World) (sb : Nat) (lo hi : ByteArray) (r : Int) (a : Option Addr) (n c : Nat) (es : List EntD) : Prop where
  at_ : SetAt w sb lo hi r (.slice a n c)
  own : EOwns w (sb + 1) (.slice a n c) es
  rise : Rise es
theorem Sett.len {w : World} {sb : Nat} {lo hi : ByteArray} {r : Int} {a : Option Addr} {n c : Nat} {es : List EntD} (h : Sett w sb lo hi r a n c es) : n = es.length := (erow_of_owns h.own).1.symm
theorem Sett.step {w w' : World} {sb : Nat} {lo hi : ByteArray} {r : Int} {a : Option Addr} {n c : Nat} {es : List EntD} (h : Sett w sb lo hi r a n c es) (hb : Below w.heap.size w w') : Sett w' sb lo hi r a n c es :=
  ⟨h.at_.below hb h.at_.lt, World.ownsRow.kept (row := none) h.own ⟨hb.os, hb.tape, hb.output, hb.size, fun i hi _ => hb.block i hi⟩ (by cases hv : (Value.slice a n c).ownBlock <;> simp), h.rise⟩
/-- A new value of the entries' slice. -/
theorem SetAt.set3 {w : World} {sb : Nat} {lo hi : ByteArray} {r : Int} {v : Value} (h : SetAt w sb lo hi r v) (v' : Value) : SetAt (w.setCell ⟨sb, 3, none⟩ v') sb lo hi r v' := by
  unfold SetAt at *
  have hlt : sb < w.heap.size := (Array.getElem?_eq_some_iff.1 h).1
  have hv : w.heap[sb] = _ := (Array.getElem?_eq_some_iff.1 h).2
  unfold World.setCell
  rw [Array.getElem?_eq_getElem (by simpa using hlt), Array.getElem_modify]
  simp [hv]
theorem heap_lt0 {w : World} {b : Nat} {o : Obj} (h : w.heap[b]? = some o) : b < w.heap.size := (Array.getElem?_eq_some_iff.1 h).1
theorem eowns_below {w w' : World} {B : Nat} {v : Value} {es : List EntD} (h : EOwns w B v es) (hb : Below w.heap.size w w') : EOwns w' B v es :=
  World.ownsRow.kept (row := none) h ⟨hb.os, hb.tape, hb.output, hb.size, fun i hi _ => hb.block i hi⟩ (by cases hv : v.ownBlock <;> simp)
theorem put_row {w : World} {B g n c : Nat} {es : List EntD} (h : EOwns w B (.slice (some ⟨g, 0, none⟩) n c) es) (k u : ByteArray) (hf : found es k = true) :
    EOwns ((w.setCell ⟨g, pos es k * 2, none⟩ (.string k)).setCell ⟨g, pos es k * 2 + 1, none⟩ (.string u)) B (.slice (some ⟨g, 0, none⟩) n c) (stepE es ⟨1, k, u, 0⟩) ∧ w.grownBy ((w.setCell ⟨g, pos es k * 2, none⟩ (.string k)).setCell ⟨g, pos es k * 2 + 1, none⟩ (.string u)) (Value.slice (some ⟨g, 0, none⟩) n c).ownBlock := by
  have hn := (erow_of_owns h).1.symm
  subst hn
  obtain ⟨o1, g1⟩ := World.ownsRow.stored h (pos es k * 2) (.string k)
  obtain ⟨o2, g2⟩ := World.ownsRow.stored o1 (pos es k * 2 + 1) (.string u)
  rw [← show ecs (es.set (pos es k) ⟨k, u⟩) = _ from ecs_set es (pos es k) ⟨k, u⟩] at o2
  have hs : stepE es ⟨1, k, u, 0⟩ = es.set (pos es k) ⟨k, u⟩ := stepE_put_old (d := ⟨1, k, u, 0⟩) rfl hf
  refine ⟨?_, grown_trans g1 g2⟩
  rw [hs]
  unfold EOwns
  rw [List.length_set]
  exact o2
theorem eowns_set {w : World} {B sb : Nat} {v : Value} {es : List EntD} (h : EOwns w B v es) (hs : sb < B) (o : Nat) (x : Value) : EOwns (w.setCell ⟨sb, o, none⟩ x) B v es := by
  refine World.ownsRow.kept (row := some sb) h ⟨rfl, rfl, rfl, by simp [World.setCell], fun i _ hi => Below.heap_setCell _ _ _ _ (fun e => hi (by rw [e]))⟩ ?_
  cases hv : v.ownBlock with
  | none => exact .inl rfl
  | some k => exact .inr (fun e => by have := (h.lt k hv).1; injection e with e; omega)
theorem new_done {w w' : World} {sb : Nat} {lo hi : ByteArray} {r : Int} {a : Option Addr} {n c : Nat} {es es2 : List EntD} (h : Sett w sb lo hi r a n c es) {v : Value} (hO : EOwns w' (sb + 1) v es2) (hv : v ≠ .slice none 0 0) (hg : w.grownBy w' (Value.slice a n c).ownBlock) (hR : Rise es2) :
    SetAt w' sb lo hi r (.slice a n c) ∧ ∃ a' n' c', v = .slice a' n' c' ∧ Sett (w'.setCell ⟨sb, 3, none⟩ (.slice a' n' c')) sb lo hi r a' n' c' es2 ∧ Below sb w (w'.setCell ⟨sb, 3, none⟩ (.slice a' n' c')) := by
  have hlt := h.at_.lt
  have hne : some sb ≠ (Value.slice a n c).ownBlock := fun e => by have := (h.own.lt sb e.symm).1; omega
  have hA : SetAt w' sb lo hi r (.slice a n c) := h.at_.kept (hg.block sb hlt hne)
  obtain ⟨a', n', c', rfl⟩ : ∃ a' n' c', v = .slice a' n' c' := by
    rcases hO.2 with ⟨e, _⟩ | ⟨g, cap, cur, e, hb, _⟩
    · exact absurd e hv
    · exact ⟨_, _, _, e⟩
  refine ⟨hA, a', n', c', rfl, ⟨hA.set3 _, eowns_set hO (by omega) _ _, hR⟩, ?_⟩
  refine Below.setCell (p := ⟨sb, 3, none⟩) ?_ (Nat.le_refl _) _
  exact ⟨hg.os, hg.tape, hg.output, hg.size, fun j hj => by
    have hj : j < sb := hj
    exact hg.block j (by omega) (fun e => by have := (h.own.lt j e.symm).1; omega)⟩
theorem met_put (n : Nat) (x : Value) (w : World) : (method (n + 1) 102 x "loop.example/g00163/impl.about").run Try.prog w = .ok (102, x) w := by kernel_rfl
theorem met_drop (n : Nat) (x : Value) (w : World) : (method (n + 1) 104 x "loop.example/g00163/impl.about").run Try.prog w = .ok (103, x) w := by kernel_rfl
theorem met_split (n : Nat) (x : Value) (w : World) : (method (n + 1) 106 x "loop.example/g00163/impl.about").run Try.prog w = .ok (104, x) w := by kernel_rfl
set_option maxRecDepth 100000 in
set_option maxHeartbeats 4000000 in
theorem placed_any (B : Nat) (a : Option Addr) (n c : Nat) (es : List EntD) (k u : ByteArray) (w : World) (hown : EOwns w B (.slice a n c) es) (hR : Rise es) (hn : n ≤ 100) (hB : B ≤ w.heap.size) :
    Calls Try.prog 75 #[.slice a n c, .agg #[.string k, .string u], .func (.func 72) #[] #[]] w fun x w' => ∃ v', x = .returned v' ∧ EOwns w' B v' (stepE es ⟨1, k, u, 0⟩) ∧ v' ≠ .slice none 0 0 ∧ w.grownBy w' (Value.slice a n c).ownBlock := by
  have HL := hide (show n = es.length from (erow_of_owns hown).1.symm)
  have B0 : Below w.heap.size w (w.alloc (.cells #[.string k, .string u] 58)) := (Below.refl _ _).alloc (Nat.le_refl _) _
  have HO := hide (eowns_below hown B0)
  have K0 := hide (heap_alloc_new w (.cells #[.string k, .string u] 58))
  have z0 : (w.alloc (.cells #[.string k, .string u] 58)).heap.size = w.heap.size + 1 := by simp
  have HR := hide hR
  clear hown hR
  go_enter Try.func75, Try.ntmps75
  go_wp2_with fail
  generalize w.alloc (.cells #[.string k, .string u] 58) = W1 at *
  refine (keyOf_any k u _).mono ?_
  rintro e w1 ⟨rfl, hb1⟩
  replace HO := hide (eowns_below (unhide HO) hb1)
  replace K0 := hide ((hb1.block w.heap.size (by omega)).trans (unhide K0))
  replace B0 := B0.trans (hb1.mono B0.size)
  clear hb1 z0
  go_wp2_with fail
  refine (search_any a n c es k w1 (erow_of_owns (unhide HO)) (unhide HR) (by omega)).mono ?_
  rintro e w2 ⟨rfl, hb2⟩
  have z2 : w.heap.size < w2.heap.size := by have := heap_lt0 (unhide K0); have := hb2.size; omega
  replace HO := hide (eowns_below (unhide HO) hb2)
  replace K0 := hide ((hb2.block w.heap.size (heap_lt0 (unhide K0))).trans (unhide K0))
  replace B0 := B0.trans (hb2.mono B0.size)
  clear hb2
  have PL := hide (pos_le es k)
  have e0 : w2.cell? ⟨w.heap.size, 0, none⟩ = some (.string k) := by simp [World.cell?, unhide K0]
  have e1 : w2.cell? ⟨w.heap.size, 1, none⟩ = some (.string u) := by simp [World.cell?, unhide K0]
  by_cases hf : found es k = true
  · rw [hf]
    obtain ⟨hp, _⟩ := found_in hf
    obtain ⟨g, cur, rfl, hnl, hgb, hh, _⟩ := eowns_form (unhide HO) (by omega)
    obtain ⟨b, off, e, d0, d1⟩ := (erow_of_owns (unhide HO)).2 (pos es k) hp
    injection e with e
    injection e with e2 e3
    subst e2 e3
    rw [Nat.zero_add] at d0 d1
    have z0 : w2.frozen? ⟨g, pos es k * 2, none⟩ = false := by simp [World.frozen?, hh]
    have z1 : w2.frozen? ⟨g, pos es k * 2 + 1, none⟩ = false := by simp [World.frozen?, hh]
    have DN := hide (put_row (unhide HO) k u hf)
    have hpn : pos es k < n := by omega
    clear hh hnl
    generalize es[pos es k] = em at *
    generalize pos es k = p at *
    go_wp2_with fail
    go_ret
    exact ⟨_, rfl, (unhide DN).1, by simp, grown_trans (grown_new B0) (unhide DN).2⟩
  · have hf : found es k = false := by simpa using hf
    rw [hf]
    have B1 : Below w2.heap.size w2 (w2.alloc (.cells #[.string k, .string u] 58)) := (Below.refl _ _).alloc (Nat.le_refl _) _
    have IN := hide (insert_any B a n c (pos es k) es ⟨k, u⟩ w2.heap.size (w2.alloc (.cells #[.string k, .string u] 58)) (eowns_below (unhide HO) B1) (unhide HL) (by have := unhide PL; have := unhide HL; omega) (by omega) (by have := B1.size; omega) (heap_alloc_new w2 _) (fun x hx => by have := ((unhide HO).lt x.block (by rw [hx]; rfl)).2; omega))
    have ST := hide (show stepE es ⟨1, k, u, 0⟩ = es.take (pos es k) ++ ⟨k, u⟩ :: es.drop (pos es k) from stepE_put_new (d := ⟨1, k, u, 0⟩) rfl hf)
    go_wp2_with fail
    refine (unhide IN).mono ?_
    rintro x w5 ⟨v', rfl, hO, hne, hgr⟩
    have F := hide (And.intro hO (And.intro hne hgr))
    clear hO hne hgr
    go_wp2_with fail
    go_ret
    exact ⟨v', rfl, by rw [unhide ST]; exact (unhide F).1, (unhide F).2.1, grown_trans (grown_new (B0.trans (B1.mono B0.size))) (unhide F).2.2⟩
set_option maxRecDepth 100000 in
set_option maxHeartbeats 4000000 in
theorem do_put (sb : Nat) (lo hi : ByteArray) (r : Int) (a : Option Addr) (n c : Nat) (es : List EntD) (k u : ByteArray) (w : World) (h : Sett w sb lo hi r a n c es) (hn : n ≤ 100) :
    Calls Try.prog 51 #[.pointer (some ⟨sb, 0, none⟩), .iface 102 (.agg #[.string k, .string u])] w fun e w' => e = .returned (.tuple #[]) ∧ (∃ a' n' c', Sett w' sb lo hi r a' n' c' (stepE es ⟨1, k, u, 0⟩)) ∧ Below sb w w' := by
  have HS := hide h
  have hsl := h.at_.lt
  have c3 := h.at_.c3
  have t1 := as_put_put
  have m1 : ∀ (x : Value) (w : World), (method 238 102 x "loop.example/g00163/impl.about").run Try.prog w = .ok (102, x) w := fun x w => met_put 237 x w
  clear h
  go_enter Try.func51, Try.ntmps51
  go_upto_region 0 with fail
  go_cut [4, 5] (fun x y wc => x = .int .i64 (pos es k : Nat) ∧ y = .bool (found es k) ∧ Below w.heap.size w wc)
  case first =>
    go_region_with (first
      | (go_at_call 102; refine (about_put k u _).mono ?_; rintro e wa ⟨rfl, hba⟩; replace hba := bel_of_drew hba; have c3 := ((unhide HS).step hba).at_.c3)
      | (go_at_call 47; refine (searchEntry_any a n c es k _ (erow_of_owns ((unhide HS).step hba).own) (unhide HS).rise (by omega)).mono ?_; rintro e w2 ⟨rfl, hb2⟩))
    all_goals
      go_wp2_with fail
      go_meet
      case rel => exact ⟨rfl, rfl, hba.trans (hb2.mono hba.size)⟩
  case rest =>
    obtain ⟨rfl, rfl, hb⟩ := hcut
    replace HS := hide ((unhide HS).step hb)
    have b1 : Below wc.heap.size wc (wc.alloc (.cells #[.string k, .string u] 102)) := (Below.refl _ _).alloc (Nat.le_refl _) _
    have S2 := hide ((unhide HS).step b1)
    have e0 : (wc.alloc (.cells #[.string k, .string u] 102)).cell? ⟨wc.heap.size, 0, none⟩ = some (.string k) := by simp
    have e1 : (wc.alloc (.cells #[.string k, .string u] 102)).cell? ⟨wc.heap.size, 1, none⟩ = some (.string u) := by simp
    have BB := hide ((hb.mono (show sb ≤ w.heap.size by omega)).trans (b1.mono (by have := hb.size; omega)))
    clear c3 hb b1
    go_wp2_with fail
    generalize wc.alloc (.cells #[.string k, .string u] 102) = W2 at *
    have c3 := (unhide S2).at_.c3
    have IN := hide (placed_any (sb + 1) a n c es k u W2.drew (show EOwns W2.drew (sb + 1) (.slice a n c) es from (unhide S2).own) (unhide S2).rise hn (by have := (unhide S2).at_.lt; exact this))
    generalize wc.heap.size = bx at *
    go_region_with (go_at_call 75; refine (unhide IN).mono ?_; rintro e w5 ⟨v', rfl, hO, hne, hgr⟩; (have ID := hide (new_done (show Sett W2.drew sb lo hi r a n c es from ⟨(unhide S2).at_, (unhide S2).own, (unhide S2).rise⟩) hO hne hgr (stepE_rise (unhide S2).rise _))); (have z0 := (unhide ID).1.c3); (have z1 := (unhide ID).1.fz 3); (obtain ⟨a', n', c', rfl, ID2⟩ := (unhide ID).2); (replace ID2 := hide ID2); clear hO hne hgr ID)
    all_goals
      go_wp2_with fail
      go_end0
      exact ⟨rfl, ⟨_, _, _, (unhide ID2).1⟩, (unhide BB).trans (bel_of_drew (unhide ID2).2)⟩
end Go.Proofs.Ytkggpapmhopaeaa
