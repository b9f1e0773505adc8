/-
  A drop and a split done to what a page is.
-/
import Derived.Test.YtkggpapmhopaeaaPageG
namespace Go.Proofs.Ytkggpapmhopaeaa
open Go.RowKit

theorem SetAt.set1 {w : World} {sb : Nat} {lo hi : ByteArray} {r : Int} {v : Value} (h : SetAt w sb lo hi r v) (k : ByteArray) : SetAt (w.setCell ⟨sb, 1, none⟩ (.string k)) sb lo k r v := by
  unfold SetAt at *
  have hlt : sb < w.heap.size := (Array.getElem?_eq_some_iff.1 h).1
  have hv : w.heap[sb] = _ := (Array.getElem?_eq_some_iff.1 h).2
  unfold World.setCell
  rw [Array.getElem?_eq_getElem (by simpa using hlt), Array.getElem_modify]
  simp [hv]
theorem SetAt.set2 {w : World} {sb : Nat} {lo hi : ByteArray} {r : Int} {v : Value} (h : SetAt w sb lo hi r v) (t : Int) : SetAt (w.setCell ⟨sb, 2, none⟩ (.int .i64 t)) sb lo hi t v := by
  unfold SetAt at *
  have hlt : sb < w.heap.size := (Array.getElem?_eq_some_iff.1 h).1
  have hv : w.heap[sb] = _ := (Array.getElem?_eq_some_iff.1 h).2
  unfold World.setCell
  rw [Array.getElem?_eq_getElem (by simpa using hlt), Array.getElem_modify]
  simp [hv]
theorem eowns_take {w : World} {B n c : Nat} {a : Option Addr} {es : List EntD} (h : EOwns w B (.slice a n c) es) {p : Nat} (hp : p ≤ es.length) : EOwns w B (.slice a p c) (es.take p) := by
  have hl : (es.take p).length = p := by rw [List.length_take]; omega
  rcases h.2 with ⟨e, hn⟩ | ⟨g, cap, cur, e, hb, hh, h1, h2, h3, h4⟩
  · injection e with e1 e2 e3
    subst e1 e2 e3
    obtain rfl : p = 0 := by omega
    exact ⟨by simp [ecs], .inl ⟨rfl, by simp⟩⟩
  · injection e with e1 e2 e3
    subst e1 e2 e3
    refine eowns_back hb hh hl.symm (by omega) h2 h3 ?_
    rw [ecs_take, ← h4, List.take_take]
    congr 1
    omega
theorem split_done {w : World} {sb : Nat} {lo hi : ByteArray} {r : Int} {a : Option Addr} {n c : Nat} {es : List EntD} (h : Sett w sb lo hi r a n c es) (k : ByteArray) (nx : Int) :
    Sett (((w.setCell ⟨sb, 1, none⟩ (.string k)).setCell ⟨sb, 2, none⟩ (.int .i64 nx)).setCell ⟨sb, 3, none⟩ (.slice a (pos es k) c)) sb lo k nx a (pos es k) c (stepE es ⟨3, k, ByteArray.empty, nx⟩) ∧ Below sb w (((w.setCell ⟨sb, 1, none⟩ (.string k)).setCell ⟨sb, 2, none⟩ (.int .i64 nx)).setCell ⟨sb, 3, none⟩ (.slice a (pos es k) c)) := by
  have hs : stepE es ⟨3, k, ByteArray.empty, nx⟩ = es.take (pos es k) := stepE_split (d := ⟨3, k, ByteArray.empty, nx⟩) rfl
  refine ⟨⟨((h.at_.set1 k).set2 nx).set3 _, ?_, stepE_rise h.rise _⟩, (((Below.refl _ _).setCell (p := ⟨sb, 1, none⟩) (Nat.le_refl _) _).setCell (p := ⟨sb, 2, none⟩) (Nat.le_refl _) _).setCell (p := ⟨sb, 3, none⟩) (Nat.le_refl _) _⟩
  rw [hs]
  exact eowns_set (eowns_set (eowns_set (eowns_take h.own (pos_le es k)) (by omega) _ _) (by omega) _ _) (by omega) _ _
theorem split_done' {w : World} {sb : Nat} {lo hi : ByteArray} {r : Int} {a : Option Addr} {n c : Nat} {es : List EntD} (h : Sett w sb lo hi r a n c es) (k : ByteArray) (nx : Int) :
    Sett (((w.setCell ⟨sb, 2, none⟩ (.int .i64 nx)).setCell ⟨sb, 1, none⟩ (.string k)).setCell ⟨sb, 3, none⟩ (.slice a (pos es k) c)) sb lo k nx a (pos es k) c (stepE es ⟨3, k, ByteArray.empty, nx⟩) ∧ Below sb w (((w.setCell ⟨sb, 2, none⟩ (.int .i64 nx)).setCell ⟨sb, 1, none⟩ (.string k)).setCell ⟨sb, 3, none⟩ (.slice a (pos es k) c)) := by
  have hs : stepE es ⟨3, k, ByteArray.empty, nx⟩ = es.take (pos es k) := stepE_split (d := ⟨3, k, ByteArray.empty, nx⟩) rfl
  refine ⟨⟨((h.at_.set2 nx).set1 k).set3 _, ?_, stepE_rise h.rise _⟩, (((Below.refl _ _).setCell (p := ⟨sb, 2, none⟩) (Nat.le_refl _) _).setCell (p := ⟨sb, 1, none⟩) (Nat.le_refl _) _).setCell (p := ⟨sb, 3, none⟩) (Nat.le_refl _) _⟩
  rw [hs]
  exact eowns_set (eowns_set (eowns_set (eowns_take h.own (pos_le es k)) (by omega) _ _) (by omega) _ _) (by omega) _ _
theorem drop_done {w w' : World} {sb g : Nat} {lo hi : ByteArray} {r : Int} {q c : Nat} {es : List EntD} (h : Sett w sb lo hi r (some ⟨g, 0, none⟩) (q + 1) c es) (k : ByteArray) (hf : found es k = true) (hO : EOwns w' (sb + 1) (.slice (some ⟨g, 0, none⟩) q c) (es.take (pos es k) ++ es.drop (pos es k + 1))) (hg : w.grownBy w' (some g)) :
    SetAt w' sb lo hi r (.slice (some ⟨g, 0, none⟩) (q + 1) c) ∧ Sett (w'.setCell ⟨sb, 3, none⟩ (.slice (some ⟨g, 0, none⟩) q c)) sb lo hi r (some ⟨g, 0, none⟩) q c (stepE es ⟨2, k, ByteArray.empty, 0⟩) ∧ Below sb w (w'.setCell ⟨sb, 3, none⟩ (.slice (some ⟨g, 0, none⟩) q c)) := by
  have hlt := h.at_.lt
  have hgb : sb + 1 ≤ g := (h.own.lt g rfl).1
  have hA : SetAt w' sb lo hi r (.slice (some ⟨g, 0, none⟩) (q + 1) c) := h.at_.kept (hg.block sb hlt (fun e => by injection e with e; omega))
  have hs : stepE es ⟨2, k, ByteArray.empty, 0⟩ = es.take (pos es k) ++ es.drop (pos es k + 1) := stepE_drop_old (d := ⟨2, k, ByteArray.empty, 0⟩) rfl hf
  refine ⟨hA, ⟨hA.set3 _, ?_, stepE_rise h.rise _⟩, ?_⟩
  · rw [hs]
    exact eowns_set hO (by omega) _ _
  · refine Below.setCell (p := ⟨sb, 3, none⟩) ?_ (Nat.le_refl _) _
    exact ⟨hg.os, hg.tape, hg.output, hg.size, fun j hj => by
      have hj : j < sb := hj
      exact hg.block j (by omega) (fun e => by injection e with e; omega)⟩
set_option maxRecDepth 100000 in
set_option maxHeartbeats 4000000 in
theorem do_drop (sb : Nat) (lo hi : ByteArray) (r : Int) (a : Option Addr) (n c : Nat) (es : List EntD) (k : ByteArray) (w : World) (h : Sett w sb lo hi r a n c es) (hn : n ≤ 100) :
    Calls Try.prog 51 #[.pointer (some ⟨sb, 0, none⟩), .iface 104 (.agg #[.string k])] w fun e w' => e = .returned (.tuple #[]) ∧ (∃ a' n' c', Sett w' sb lo hi r a' n' c' (stepE es ⟨2, k, ByteArray.empty, 0⟩)) ∧ Below sb w w' := by
  have HS := hide h
  have HL := hide h.len
  have hsl := h.at_.lt
  have c3 := h.at_.c3
  have t1 := as_drop_put
  have t2 := as_drop_drop
  have m1 : ∀ (x : Value) (w : World), (method 238 104 x "loop.example/g00163/impl.about").run Try.prog w = .ok (103, x) w := fun x w => met_drop 237 x w
  clear h
  go_enter Try.func51, Try.ntmps51
  go_upto_region 0 with fail
  go_cut [4, 5] (fun x y wc => x = .int .i64 (pos es k : Nat) ∧ y = .bool (found es k) ∧ Below w.heap.size w wc)
  case first =>
    go_region_with (first
      | (go_at_call 103; refine (about_drop k _).mono ?_; rintro e wa ⟨rfl, hba⟩; replace hba := bel_of_drew hba; have c3 := ((unhide HS).step hba).at_.c3)
      | (go_at_call 47; refine (searchEntry_any a n c es k _ (erow_of_owns ((unhide HS).step hba).own) (unhide HS).rise (by omega)).mono ?_; rintro e w2 ⟨rfl, hb2⟩))
    all_goals
      go_wp2_with fail
      go_meet
      case rel => exact ⟨rfl, rfl, hba.trans (hb2.mono hba.size)⟩
  case rest =>
    obtain ⟨rfl, rfl, hb⟩ := hcut
    replace HS := hide ((unhide HS).step hb)
    have b1 : Below wc.heap.size wc (wc.alloc (.cells #[.string k] 104)) := (Below.refl _ _).alloc (Nat.le_refl _) _
    have S2 := hide ((unhide HS).step b1)
    have c3' := (unhide S2).at_.c3
    have BB := hide ((hb.mono (show sb ≤ w.heap.size by omega)).trans (b1.mono (by have := hb.size; omega)))
    have PL := hide (pos_le es k)
    by_cases hf : found es k = true
    · rw [hf]
      obtain ⟨hp, _⟩ := found_in hf
      obtain ⟨g, cur, rfl, hnl, hgb, hh, h1, h2, h3, h4⟩ := eowns_form (unhide S2).own (by omega)
      obtain ⟨q, rfl⟩ : ∃ q, n = q + 1 := ⟨n - 1, by omega⟩
      have IN := hide (delete_any (sb + 1) g c q (pos es k) es cur (wc.alloc (.cells #[.string k] 104)) hgb hh hnl h1 h2 h3 h4 (by omega) (by omega))
      have hpi : pos es k < 9000000 := by omega
      clear hh h1 h2 h3 h4 hnl b1 hb
      go_wp2_with fail
      refine (unhide IN).mono ?_
      rintro e w5 ⟨rfl, hO, hgr⟩
      have ID := hide (drop_done (unhide S2) k hf hO hgr)
      have z0 := (unhide ID).1.c3
      have z1 := (unhide ID).1.fz 3
      replace ID := hide (unhide ID).2
      clear hO hgr IN
      go_wp2_with fail
      go_end0
      exact ⟨rfl, ⟨_, _, _, (unhide ID).1⟩, (unhide BB).trans (unhide ID).2⟩
    · have hf : found es k = false := by simpa using hf
      have HE := hide (show stepE es ⟨2, k, ByteArray.empty, 0⟩ = es from stepE_drop_new (d := ⟨2, k, ByteArray.empty, 0⟩) rfl hf)
      rw [hf]
      go_wp2_with fail
      go_end0
      exact ⟨rfl, ⟨_, _, _, by rw [unhide HE]; exact unhide S2⟩, unhide BB⟩
set_option maxRecDepth 100000 in
set_option maxHeartbeats 4000000 in
theorem do_split (sb : Nat) (lo hi : ByteArray) (r : Int) (a : Option Addr) (n c : Nat) (es : List EntD) (k : ByteArray) (nx : Int) (w : World) (h : Sett w sb lo hi r a n c es) (hn : n ≤ 100) :
    Calls Try.prog 51 #[.pointer (some ⟨sb, 0, none⟩), .iface 106 (.agg #[.string k, .int .i64 nx])] w fun e w' => e = .returned (.tuple #[]) ∧ (∃ a' n' c', Sett w' sb lo k nx a' n' c' (stepE es ⟨3, k, ByteArray.empty, nx⟩)) ∧ Below sb w w' := by
  have HS := hide h
  have HL := hide h.len
  have hsl := h.at_.lt
  have c3 := h.at_.c3
  have t1 := as_split_put
  have t2 := as_split_drop
  have t3 := as_split_split
  have m1 : ∀ (x : Value) (w : World), (method 238 106 x "loop.example/g00163/impl.about").run Try.prog w = .ok (104, x) w := fun x w => met_split 237 x w
  clear h
  go_enter Try.func51, Try.ntmps51
  go_upto_region 0 with fail
  go_cut [4, 5] (fun x y wc => x = .int .i64 (pos es k : Nat) ∧ y = .bool (found es k) ∧ Below w.heap.size w wc)
  case first =>
    go_region_with (first
      | (go_at_call 104; refine (about_split k nx _).mono ?_; rintro e wa ⟨rfl, hba⟩; replace hba := bel_of_drew hba; have c3 := ((unhide HS).step hba).at_.c3)
      | (go_at_call 47; refine (searchEntry_any a n c es k _ (erow_of_owns ((unhide HS).step hba).own) (unhide HS).rise (by omega)).mono ?_; rintro e w2 ⟨rfl, hb2⟩))
    all_goals
      go_wp2_with fail
      go_meet
      case rel => exact ⟨rfl, rfl, hba.trans (hb2.mono hba.size)⟩
  case rest =>
    obtain ⟨rfl, rfl, hb⟩ := hcut
    replace HS := hide ((unhide HS).step hb)
    have b1 : Below wc.heap.size wc (wc.alloc (.cells #[.string k, .int .i64 nx] 106)) := (Below.refl _ _).alloc (Nat.le_refl _) _
    have S2 := hide ((unhide HS).step b1)
    have BB := hide ((hb.mono (show sb ≤ w.heap.size by omega)).trans (b1.mono (by have := hb.size; omega)))
    have PL := pos_le es k
    have hpn : pos es k ≤ n := by have := unhide HL; omega
    have hnc : n ≤ c := by
      rcases (unhide S2).own.2 with ⟨e, hn⟩ | ⟨g, cap, cur, e, _, _, h1, _⟩
      · injection e with _ e2 e3; omega
      · injection e with _ e2 e3; omega
    have e0 : (wc.alloc (.cells #[.string k, .int .i64 nx] 106)).cell? ⟨wc.heap.size, 0, none⟩ = some (.string k) := by simp
    have e1 : (wc.alloc (.cells #[.string k, .int .i64 nx] 106)).cell? ⟨wc.heap.size, 1, none⟩ = some (.int .i64 nx) := by simp
    have hsw : ¬ (sb = wc.heap.size) := by have := hb.size; omega
    go_wp2_with fail
    generalize wc.alloc (.cells #[.string k, .int .i64 nx] 106) = W2 at *
    have d1 := (unhide S2).at_.c1
    have d2 := (unhide S2).at_.c2
    have d3 := (unhide S2).at_.c3
    have y1 := (unhide S2).at_.fz 1
    have y2 := (unhide S2).at_.fz 2
    have y3 := (unhide S2).at_.fz 3
    have X1 := hide (split_done (w := W2.drew) (show Sett W2.drew sb lo hi r a n c es from ⟨(unhide S2).at_, (unhide S2).own, (unhide S2).rise⟩) k nx)
    have X2 := hide (split_done' (w := W2.drew) (show Sett W2.drew sb lo hi r a n c es from ⟨(unhide S2).at_, (unhide S2).own, (unhide S2).rise⟩) k nx)
    generalize wc.heap.size = N at *
    generalize pos es k = p at *
    clear c3 b1 hb
    go_region
    all_goals
      go_wp2_with fail
      go_end0
      first | exact ⟨rfl, ⟨_, _, _, (unhide X1).1⟩, (unhide BB).trans (bel_of_drew (unhide X1).2)⟩ | exact ⟨rfl, ⟨_, _, _, (unhide X2).1⟩, (unhide BB).trans (bel_of_drew (unhide X2).2)⟩
end Go.Proofs.Ytkggpapmhopaeaa
