/-
  A change done to what a page is.
-/
import Derived.Test.YtbbjeifnkaabcaiPageE
import Derived.Test.YtbbjeifnkaabcaiPageF
import Derived.Deep.DeepCutAuto
namespace Go.Proofs.Ytbbjeifnkaabcai
open Go.RowKit

theorem bel_of_drew {B : Nat} {w w' : World} (h : Below B w.drew w') : Below B w w' := ⟨h.os, h.tape, h.output, h.size, h.block⟩
theorem bel_of_drewN {B q : Nat} {w w' : World} (h : Below B (w.drewN q) w') : Below B w w' := ⟨h.os, h.tape, h.output, h.size, h.block⟩
/-- What a page is behind changes, with entries of the call's own. -/
structure Sett (w : World) (sb : Nat) (lo hi : ByteArray) (r : Int) (a : Option Addr) (n c : Nat) (es : List EntD) : Prop where
  at_ : SetAt w sb lo hi r (.slice a n c)
  own : EOwns w (sb + 1) (.slice a n c) es
  rise : Rise es
theorem Sett.len {w : World} {sb : Nat} {lo hi : ByteArray} {r : Int} {a : Option Addr} {n c : Nat} {es : List EntD} (h : Sett w sb lo hi r a n c es) : n = es.length := (erow_of_owns h.own).1.symm
theorem Sett.step {w w' : World} {sb : Nat} {lo hi : ByteArray} {r : Int} {a : Option Addr} {n c : Nat} {es : List EntD} (h : Sett w sb lo hi r a n c es) (hb : Below w.heap.size w w') : Sett w' sb lo hi r a n c es :=
  ⟨h.at_.below hb h.at_.lt, World.ownsRow.kept (row := none) h.own ⟨hb.os, hb.tape, hb.output, hb.size, fun i hi _ => hb.block i hi⟩ (by cases hv : (Value.slice a n c).ownBlock <;> simp), h.rise⟩
/-- A new value of the entries' slice. -/
theorem SetAt.set3 {w : World} {sb : Nat} {lo hi : ByteArray} {r : Int} {v : Value} (h : SetAt w sb lo hi r v) (v' : Value) : SetAt (w.setCell ⟨sb, 3, none⟩ v') sb lo hi r v' := by
  unfold SetAt at *
  have hlt : sb < w.heap.size := (Array.getElem?_eq_some_iff.1 h).1
  have hv : w.heap[sb] = _ := (Array.getElem?_eq_some_iff.1 h).2
  unfold World.setCell
  rw [Array.getElem?_eq_getElem (by simpa using hlt), Array.getElem_modify]
  simp [hv]
theorem put_done {w : World} {sb g : Nat} {lo hi : ByteArray} {r : Int} {n c : Nat} {es : List EntD} (h : Sett w sb lo hi r (some ⟨g, 0, none⟩) n c es) (k u : ByteArray) (hf : found es k = true) :
    Sett ((w.setCell ⟨g, pos es k * 2, none⟩ (.string k)).setCell ⟨g, pos es k * 2 + 1, none⟩ (.string u)) sb lo hi r (some ⟨g, 0, none⟩) n c (stepE es ⟨1, k, u, 0⟩) ∧ Below (sb + 1) w ((w.setCell ⟨g, pos es k * 2, none⟩ (.string k)).setCell ⟨g, pos es k * 2 + 1, none⟩ (.string u)) := by
  have hg : sb + 1 ≤ g := (h.own.lt g rfl).1
  have hn := h.len
  subst hn
  obtain ⟨o1, g1⟩ := World.ownsRow.stored h.own (pos es k * 2) (.string k)
  obtain ⟨o2, g2⟩ := World.ownsRow.stored o1 (pos es k * 2 + 1) (.string u)
  rw [← show ecs (es.set (pos es k) ⟨k, u⟩) = _ from ecs_set es (pos es k) ⟨k, u⟩] at o2
  have hs : stepE es ⟨1, k, u, 0⟩ = es.set (pos es k) ⟨k, u⟩ := stepE_put_old (d := ⟨1, k, u, 0⟩) rfl hf
  refine ⟨⟨?_, ?_, stepE_rise h.rise _⟩, ((Below.refl _ _).setCell (p := ⟨g, pos es k * 2, none⟩) hg _).setCell (p := ⟨g, pos es k * 2 + 1, none⟩) hg _⟩
  · exact h.at_.kept ((Below.heap_setCell _ _ _ _ (by simp; omega)).trans (Below.heap_setCell _ _ _ _ (by simp; omega)))
  · rw [hs]
    unfold EOwns
    rw [List.length_set]
    exact o2
theorem ins_done {w w' : World} {sb : Nat} {lo hi : ByteArray} {r : Int} {a : Option Addr} {n c : Nat} {es : List EntD} (h : Sett w sb lo hi r a n c es) (k u : ByteArray) (hf : found es k = false) {v : Value} (hO : EOwns w' (sb + 1) v (es.take (pos es k) ++ ⟨k, u⟩ :: es.drop (pos es k))) (hv : v ≠ .slice none 0 0) (hg : w.grownBy w' (Value.slice a n c).ownBlock) :
    SetAt w' sb lo hi r (.slice a n c) ∧ ∃ a' n' c', v = .slice a' n' c' ∧ Sett (w'.setCell ⟨sb, 3, none⟩ (.slice a' n' c')) sb lo hi r a' n' c' (stepE es ⟨1, k, u, 0⟩) ∧ Below sb w (w'.setCell ⟨sb, 3, none⟩ (.slice a' n' c')) := by
  have hlt := h.at_.lt
  have hne : some sb ≠ (Value.slice a n c).ownBlock := fun e => by have := (h.own.lt sb e.symm).1; omega
  have hA : SetAt w' sb lo hi r (.slice a n c) := h.at_.kept (hg.block sb hlt hne)
  have hs : stepE es ⟨1, k, u, 0⟩ = es.take (pos es k) ++ ⟨k, u⟩ :: es.drop (pos es k) := stepE_put_new (d := ⟨1, k, u, 0⟩) rfl hf
  obtain ⟨a', n', c', rfl, hb'⟩ : ∃ a' n' c', v = .slice a' n' c' ∧ ∀ x, a' = some x → sb + 1 ≤ x.block := by
    rcases hO.2 with ⟨e, _⟩ | ⟨g, cap, cur, e, hb, _⟩
    · exact absurd e hv
    · exact ⟨_, _, _, e, fun x hx => by cases hx; exact hb⟩
  refine ⟨hA, a', n', c', rfl, ⟨hA.set3 _, ?_, stepE_rise h.rise _⟩, ?_⟩
  · rw [hs]
    refine World.ownsRow.kept (row := some sb) hO ⟨rfl, rfl, rfl, by simp [World.setCell], fun i _ hi => Below.heap_setCell _ _ _ _ (fun e => hi (by rw [e]))⟩ ?_
    cases a' with
    | none => exact .inl rfl
    | some x => exact .inr (fun e => by have := hb' x rfl; simp [Value.ownBlock] at e; omega)
  · refine Below.setCell (p := ⟨sb, 3, none⟩) ?_ (Nat.le_refl _) _
    exact ⟨hg.os, hg.tape, hg.output, hg.size, fun j hj => by
      have hj : j < sb := hj
      exact hg.block j (by omega) (fun e => by have := (h.own.lt j e.symm).1; omega)⟩
theorem met_put (n : Nat) (x : Value) (w : World) : (method (n + 1) 159 x "loop.example/g00163/impl.about").run Try.prog w = .ok (146, x) w := by kernel_rfl
theorem met_drop (n : Nat) (x : Value) (w : World) : (method (n + 1) 161 x "loop.example/g00163/impl.about").run Try.prog w = .ok (147, x) w := by kernel_rfl
theorem met_split (n : Nat) (x : Value) (w : World) : (method (n + 1) 163 x "loop.example/g00163/impl.about").run Try.prog w = .ok (148, x) w := by kernel_rfl
set_option maxRecDepth 100000 in
set_option maxHeartbeats 4000000 in
theorem do_put (sb : Nat) (lo hi : ByteArray) (r : Int) (a : Option Addr) (n c : Nat) (es : List EntD) (k u : ByteArray) (w : World) (h : Sett w sb lo hi r a n c es) (hn : n ≤ 100) :
    Calls Try.prog 106 #[.pointer (some ⟨sb, 0, none⟩), .iface 159 (.agg #[.string k, .string u])] w fun e w' => e = .returned (.tuple #[]) ∧ (∃ a' n' c', Sett w' sb lo hi r a' n' c' (stepE es ⟨1, k, u, 0⟩)) ∧ Below sb w w' := by
  have HS := hide h
  have HL := hide h.len
  have hsl := h.at_.lt
  have c3 := h.at_.c3
  have t1 := as_put_put
  have m1 : ∀ (x : Value) (w : World), (method 289 159 x "loop.example/g00163/impl.about").run Try.prog w = .ok (146, x) w := fun x w => met_put 288 x w
  clear h
  go_enter Try.func106, Try.ntmps106
  go_upto_region 0 with fail
  go_cut [4, 5] (fun x y wc => x = .int .i64 (pos es k : Nat) ∧ y = .bool (found es k) ∧ Below w.heap.size w wc)
  case first =>
    go_region_with (first
      | (go_at_call 146; refine (about_put k u _).mono ?_; rintro e wa ⟨rfl, hba⟩; replace hba := bel_of_drew hba; have c3 := ((unhide HS).step hba).at_.c3)
      | (go_at_call 97; refine (searchEntry_any a n c es k _ (erow_of_owns ((unhide HS).step hba).own) (unhide HS).rise (by omega)).mono ?_; rintro e w2 ⟨rfl, hb2⟩))
    all_goals
      go_wp2_with fail
      go_meet
      case rel => exact ⟨rfl, rfl, hba.trans (hb2.mono hba.size)⟩
  case rest =>
    obtain ⟨rfl, rfl, hb⟩ := hcut
    replace HS := hide ((unhide HS).step hb)
    replace c3 := (unhide HS).at_.c3
    have PL := hide (pos_le es k)
    have b1 : Below wc.heap.size wc ((wc.alloc (.cells #[.string k, .string u] 159)).alloc (.cells #[.string k, .string u] 66)) := ((Below.refl _ _).alloc (Nat.le_refl _) _).alloc (by simp) _
    have S2 := hide ((unhide HS).step b1)
    have e0 : ((wc.alloc (.cells #[.string k, .string u] 159)).alloc (.cells #[.string k, .string u] 66)).cell? ⟨wc.heap.size + 1, 0, none⟩ = some (.string k) := by simp
    have e1 : ((wc.alloc (.cells #[.string k, .string u] 159)).alloc (.cells #[.string k, .string u] 66)).cell? ⟨wc.heap.size + 1, 1, none⟩ = some (.string u) := by simp
    have BB := hide ((hb.mono (show sb ≤ w.heap.size by omega)).trans (b1.mono (by have := hb.size; omega)))
    by_cases hf : found es k = true
    · rw [hf]
      go_wp2_with fail
      generalize (wc.alloc (.cells #[.string k, .string u] 159)).alloc (.cells #[.string k, .string u] 66) = W2 at *
      obtain ⟨hp, _⟩ := found_in hf
      obtain ⟨g, cur, rfl, hnl, hgb, hh, _⟩ := eowns_form (unhide S2).own (by omega)
      obtain ⟨b, off, e, d0, d1⟩ := (erow_of_owns (unhide S2).own).2 (pos es k) hp
      injection e with e
      injection e with e2 e3
      subst e2 e3
      rw [Nat.zero_add] at d0 d1
      have z0 : W2.frozen? ⟨g, pos es k * 2, none⟩ = false := by simp [World.frozen?, hh]
      have z1 : W2.frozen? ⟨g, pos es k * 2 + 1, none⟩ = false := by simp [World.frozen?, hh]
      have c3' := (unhide S2).at_.c3
      have DN := hide (put_done (w := W2.drew) (show Sett W2.drew sb lo hi r (some ⟨g, 0, none⟩) n c es from ⟨(unhide S2).at_, (unhide S2).own, (unhide S2).rise⟩) k u hf)
      have hpn : pos es k < n := by omega
      have hgs : ¬ (g = sb) := by omega
      clear hh hnl b1 c3 hb
      generalize es[pos es k] = em at *
      generalize pos es k = p at *
      go_region
      all_goals
        go_wp2_with fail
        go_end0
        exact ⟨rfl, ⟨_, _, _, (unhide DN).1⟩, (unhide BB).trans ((bel_of_drew (unhide DN).2).mono (by omega))⟩
    · have hf : found es k = false := by simpa using hf
      rw [hf]
      go_wp2_with fail
      generalize (wc.alloc (.cells #[.string k, .string u] 159)).alloc (.cells #[.string k, .string u] 66) = W2 at *
      have c3' := (unhide S2).at_.c3
      have SA := hide ((unhide S2).step ((Below.refl W2.heap.size W2).alloc (Nat.le_refl _) (.cells #[.string k, .string u] 66)))
      have IN := hide (insert_any (sb + 1) a n c (pos es k) es ⟨k, u⟩ W2.heap.size (W2.alloc (.cells #[.string k, .string u] 66)).drew (unhide SA).own (unhide HL) (by have := unhide PL; have := unhide HL; omega) (by omega) (by have := (unhide SA).at_.lt; exact this) (heap_alloc_new W2 _) (fun x hx => by have := ((unhide S2).own.lt x.block (by rw [hx]; rfl)).2; omega))
      have hsz : sb < W2.heap.size := (unhide S2).at_.lt
      clear c3 hb b1
      go_region_with (go_at_call 121; refine (unhide IN).mono ?_; rintro e w5 ⟨v', rfl, hO, hne, hgr⟩; (have ID := hide (ins_done (show Sett (W2.alloc (.cells #[.string k, .string u] 66)).drew sb lo hi r a n c es from ⟨(unhide SA).at_, (unhide SA).own, (unhide SA).rise⟩) k u hf hO hne hgr)); (have z0 := (unhide ID).1.c3); (have z1 := (unhide ID).1.fz 3); (obtain ⟨a', n', c', rfl, ID2⟩ := (unhide ID).2); (replace ID2 := hide ID2); clear hO hne hgr ID)
      all_goals
        go_wp2_with fail
        go_end0
        exact ⟨rfl, ⟨_, _, _, (unhide ID2).1⟩, (unhide BB).trans (((Below.refl _ _).alloc (by omega) _).trans (bel_of_drew (unhide ID2).2))⟩
end Go.Proofs.Ytbbjeifnkaabcai
