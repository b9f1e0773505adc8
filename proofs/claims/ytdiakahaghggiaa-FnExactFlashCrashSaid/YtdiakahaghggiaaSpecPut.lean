/-
  The walk of l02Put.
-/
import Derived.Test.YtdiakahaghggiaaFlashD
import Derived.Test.YtdiakahaghggiaaAppZ
import Derived.Deep.RegionLaw
namespace Go.Proofs.Ytdiakahaghggiaa
open Go.RowKit

/-- A copy whose run is known, as one step of a region that draws. -/
theorem step_copy_eq {P : Program} {ops : Array Oper} {o : Oper} {a : Act} {w : World} {K : Act → World → Prop} {Q : Exit → Act → World → Prop} {E : Prop}
    (hg : o.guard = none) (s x : Operand) (t : TypeId) (hop : o.op = Op.call { callee := Callee.builtin Builtin.copy, args := #[s, x], argTypes := #[t, t] })
    (vs vx v' : Value) (w' : World) (hs : a.eval s = vs) (hx : a.eval x = vx) (hrun : (Builtin.copy_ #[t, t] o.type #[vs, vx]).run P w = .ok v' w') (hK : K (a.put o.dst v') w') :
    if Region.wanted o (yielded ops a.tmps) = true then Oper.wp P o a w K Q else E := by
  have hw : Region.wanted o (yielded ops a.tmps) = true := by simp [Region.wanted, hg]
  rw [if_pos hw]
  unfold Oper.wp
  simp [execOp, hop, resolve, invoke, builtin, hs, hx, hrun, Result.andThen]
  exact hK
/-- The cells of a row of bytes, as a law of the library asks them. -/
theorem row_cells {w : World} {b off : Nat} {xs : List Int} (h : Row w (some ⟨b, off, none⟩) xs.length xs) : ∀ j u, (xs.map (Value.int .u8))[j]? = some u → w.cell? ((⟨b, off, none⟩ : Addr).add j) = some u := by
  intro j u hu
  have hj : j < xs.length := by simpa using (List.getElem?_eq_some_iff.1 hu).1
  obtain ⟨b', off', e, hc⟩ := h.2 j hj
  injection e with e
  injection e with e1 e2
  subst e1 e2
  rw [Addr.add_mid, hc, ← hu]
  simp [List.getD, hj]
/-- A row of the call's own, with an address. -/
theorem owns_formF {w : World} {B : Nat} {v : Value} {xs : List Int} (h : Owns w B v xs) (hv : v ≠ .slice none 0 0) : ∃ g cap, v = .slice (some ⟨g, 0, none⟩) xs.length cap ∧ B ≤ g ∧ g < w.heap.size ∧ xs.length ≤ cap ∧ cap ≤ maxLen := by
  rcases h.2 with ⟨e, _⟩ | ⟨g, cap, cur, e, hb, hh, h1, h2, _⟩
  · exact absurd e hv
  · exact ⟨g, cap, e, hb, (Array.getElem?_eq_some_iff.1 hh).1, h1, h2⟩
theorem owns_cap {w : World} {B g n cap : Nat} {xs : List Int} (h : Owns w B (.slice (some ⟨g, 0, none⟩) n cap) xs) : n ≤ cap := by
  rcases h.2 with ⟨e, _⟩ | ⟨g', cap', cur, e, _, _, h1, _⟩
  · cases e
  · injection e with _ e2 e3
    rw [e2, e3]; exact h1
/-- Bytes are copied into a row of the call's own. -/
theorem owns_copy {w : World} {B g cap o b so : Nat} {xs s : List Int} (h : Owns w B (.slice (some ⟨g, 0, none⟩) xs.length cap) xs) (hr : Row w (some ⟨b, so, none⟩) s.length s) (hfit : o + s.length ≤ xs.length) (dl dc sl sc : Nat) (hmin : Nat.min sl dl = s.length) :
    ∃ w', (Builtin.copy_ #[22, 22] 3 #[.slice (some ⟨g, o, none⟩) dl dc, .slice (some ⟨b, so, none⟩) sl sc]).run Try.prog w = .ok (.int .i64 (s.length : Int)) w' ∧ Owns w' B (.slice (some ⟨g, 0, none⟩) xs.length cap) (putB xs o s) ∧ Only g w w' := by
  have hl := putB_len xs o s hfit
  rcases h.2 with ⟨e, _⟩ | ⟨g', cap', cur, e, hb, hh, h1, h2, hs, ht⟩
  · cases e
  injection e with e1 _ e3
  injection e1 with e1
  injection e1 with e1
  subst e1 e3
  have hsz : xs.length ≤ cur.size := by omega
  have hc := run_copy_row (P := Try.prog) w 22 22 3 5 g o dl dc ⟨b, so, none⟩ sl sc cur 5 (s.map (Value.int .u8)) Try.underlying22 u8_info hh (by simp [hmin]) (row_cells hr) (by simp; omega) (all_u8 s)
  have hgo : goInt (((s.map (Value.int .u8)).length : Nat) : Int) = .int .i64 (s.length : Int) := by simp [goInt]
  rw [hgo] at hc
  have hcur : cur.toList.take xs.length = xs.map (Value.int .u8) := by simpa using ht
  refine ⟨_, hc, ⟨by simp, .inr ⟨g, cap, _, by rw [hl], hb, setRow_heap _ _ _ _ _ _ hh, by omega, h2, ?_, ?_⟩⟩, ?_⟩
  · simp; omega
  · rw [hl]
    apply List.ext_getElem?
    intro j
    have e1 : ∀ i, i < xs.length → cur.toList[i]? = (xs.map (Value.int .u8))[i]? := fun i hi => by rw [← hcur, List.getElem?_take, if_pos hi]
    simp only [Nat.mul_one, List.getElem?_take]
    by_cases hj : j < xs.length
    · rw [if_pos hj]
      simp only [List.length_map]
      unfold putB
      simp only [List.map_append, List.map_take, List.map_drop]
      by_cases ho : j < o
      · rw [List.append_assoc, List.getElem?_append_left (by simp; omega), List.append_assoc, List.getElem?_append_left (by simp; omega), List.getElem?_take, List.getElem?_take, if_pos ho, if_pos ho]
        exact e1 j hj
      · by_cases ho2 : j < o + s.length
        · rw [List.getElem?_append_left (by simp; omega), List.getElem?_append_right (by simp; omega), List.getElem?_append_left (by simp; omega), List.getElem?_append_right (by simp; omega)]
          have l1 : (cur.toList.take o).length = o := by simp; omega
          have l2 : ((xs.map (Value.int .u8)).take o).length = o := by simp; omega
          rw [l1, l2]
        · rw [List.getElem?_append_right (by simp; omega), List.getElem?_append_right (by simp; omega), List.getElem?_drop, List.getElem?_drop]
          simp only [List.length_append, List.length_take, List.length_map, Array.length_toList]
          rw [show o + s.length + (j - (min o cur.size + s.length)) = j by omega, show o + s.length + (j - (min o xs.length + s.length)) = j by omega]
          exact e1 j hj
    · rw [if_neg hj, List.getElem?_eq_none (by simp [hl]; omega)]
  · refine ⟨rfl, rfl, rfl, by simp [World.setRow], fun k hk => ?_, fun a => ?_⟩
    · simp [World.setRow, Array.getElem?_modify, Ne.symm hk]
    · by_cases e : a.block = g
      · have h2 := setRow_heap w g _ ((cur.toList.take o ++ s.map (Value.int .u8) ++ cur.toList.drop (o + (s.map (Value.int .u8)).length)).toArray) 5 (0, 0) hh
        simp only [World.frozen?, e, hh, h2]
      · have h2 : ∀ c', (w.setRow g c').heap[a.block]? = w.heap[a.block]? := fun c' => by simp [World.setRow, Array.getElem?_modify, Ne.symm e]
        simp only [World.frozen?, h2]

set_option maxRecDepth 100000 in
set_option maxHeartbeats 2000000 in
theorem l02Put_any (b off n c : Nat) (xs : List Int) (at_ : Nat) (ds : List Int) (bd od cd t : Nat) (w : World) (hR : Row w (some ⟨b, off, none⟩) n xs) (hn : n ≤ 2048) (h16 : n % 16 = 0) (hat : at_ ≤ 127) (hds : ds.length = 16) (hRd : Row w (some ⟨bd, od, none⟩) 16 ds) (hcd : 16 ≤ cd) (ht : t ≤ 16) :
    Calls Try.prog 58 #[.slice (some ⟨b, off, none⟩) n c, wv (at_ : Int) (some ⟨bd, od, none⟩) 16 cd, .int .i64 (t : Int)] w fun e w' => ∃ g cap, e = .returned (.slice (some ⟨g, 0, none⟩) (max n ((at_ + 1) * 16)) cap) ∧ Owns w' w.heap.size (.slice (some ⟨g, 0, none⟩) (max n ((at_ + 1) * 16)) cap) (putD xs ⟨at_, ds⟩ t) ∧ Below w.heap.size w w' := by
  obtain ⟨i0, hi, hz0, hz1, hz2⟩ := info_parts Try.infoU8
  have hxl := hR.1
  have hb0 : ∀ o1 o2, Below w.heap.size w ((w.alloc o1).alloc o2) := fun o1 o2 => ((Below.refl _ _).alloc (Nat.le_refl _) _).alloc (by simp) _
  have hO : ∀ o1, ((w.alloc o1).alloc (.cells #[] 5)).ownsRow w.heap.size 5 1 (.slice (some ⟨w.heap.size + 1, 0, none⟩) 0 0) 0 [] := fun o1 => by
    have := World.ownsRow_lit (base := w.heap.size) (e := 5) (size := 1) (w.alloc o1) #[] 0 (by simp) (by unfold maxLen; simp) rfl
    simpa using this
  have HR := hide hR
  have HRd := hide hRd
  clear hR hRd
  go_enter Try.func58, Try.ntmps58
  go_wp2_with (at_builtin; refine wpList_append_own _ rfl _ _ 22 rfl w.heap.size 5 i0 (.int .u8 0) 1 1 Try.underlying22 hi hz0 hz1 hz2 rfl (by decide) _ 0 [] rfl (hO _) ⟨b, off, none⟩ n c (xs.map (Value.int .u8)) rfl (by simp [hxl]) (row_cells (by rw [hxl]; exact row_grow (unhide HR) (hb0 _ _))) (all_u8 xs) (by unfold maxLen; omega) (by omega) (by simp; omega) ?_)
  intro v1 w1 hown hgrow hnil
  have O1 : Owns w1 w.heap.size v1 xs := by
    unfold Owns
    rw [hxl]
    simpa using hown
  obtain ⟨g, cap, rfl, hg, hgl, hc1, hc2⟩ := owns_formF O1 (fun e => hnil e)
  have B1 : Below w.heap.size w w1 := (hb0 _ _).grown hgrow (by simp; omega) (fun k hk => by cases hk; simp)
  have pk : w1.heap[w.heap.size]? = some (.cells #[.int .i64 (at_ : Int), .slice (some ⟨bd, od, none⟩) 16 cd] 62 (0, 0)) := by
    rw [hgrow.block w.heap.size (by simp; omega) (by simp [Value.ownBlock]), Below.heap_alloc _ _ _ (by simp)]
    exact heap_alloc_new w _
  have hs1 : w.heap.size + 1 ≤ w1.heap.size := by have := hgrow.size; simp at this; omega
  have OO := hide O1
  clear hown hgrow hnil hb0 hO O1 hg hgl hc1 hc2
  subst hxl
  have apart : ∀ (x : World) (g cap : Nat) (ys : List Int), x.heap[w.heap.size]? = some (.cells #[.int .i64 (at_ : Int), .slice (some ⟨bd, od, none⟩) 16 cd] 62 (0, 0)) → Owns x w.heap.size (.slice (some ⟨g, 0, none⟩) ys.length cap) ys → g ≠ w.heap.size := by
    intro x g cap ys hk ho e
    rcases ho.2 with ⟨h, _⟩ | ⟨g', _, cur, e', _, hh, _⟩
    · cases h
    · injection e' with e1 _ _
      injection e1 with e1
      injection e1 with e1
      subst e1
      rw [e, hk] at hh
      injection hh with hh
      injection hh with _ hh
      exact absurd hh (by decide)
  have AP := hide apart
  clear apart
  go_wp2_with fail
  go_loopw [7] (fun o wr => ∃ (j g cap : Nat) (ys : List Int), o = .slice (some ⟨g, 0, none⟩) ys.length cap ∧ Hid (ys.length = xs.length + j * 16) ∧ Hid (ys = xs ++ List.replicate (j * 16) 0) ∧ (j = 0 ∨ xs.length + j * 16 ≤ (at_ + 1) * 16) ∧ Hid (Owns wr w.heap.size (.slice (some ⟨g, 0, none⟩) ys.length cap) ys) ∧ Hid (wr.heap[w.heap.size]? = some (.cells #[.int .i64 (at_ : Int), .slice (some ⟨bd, od, none⟩) 16 cd] 62 (0, 0))) ∧ w.heap.size + 1 ≤ wr.heap.size ∧ Below w.heap.size w wr) (fun o _ => (at_ + 1) * 16 - (match o with | .slice _ l _ => l | _ => 0))
  case atStart => exact ⟨0, g, cap, xs, rfl, by show xs.length = _; simp, by show xs = xs ++ _; simp, .inl rfl, unhide OO, pk, hs1, B1⟩
  case round =>
    clear OO B1 pk hs1
    obtain ⟨j, g, cap, ys, rfl, hyl, hy, hj, hO, hk, hs, hb⟩ := hrel
    have hyb : ys.length ≤ 4096 := by have := unhide hyl; omega
    have p0 : wr.cell? ⟨w.heap.size, 0, none⟩ = some (.int .i64 (at_ : Int)) := by simp [World.cell?, unhide hk]
    have p1 : wr.cell? ⟨w.heap.size, 1, none⟩ = some (.slice (some ⟨bd, od, none⟩) 16 cd) := by simp [World.cell?, unhide hk]
    by_cases hlt : ys.length < (at_ + 1) * 16
    · have hO2 := unhide hO
      go_wp2_with (at_builtin; refine wpList_append_zeros _ rfl _ _ rfl w.heap.size g cap 16 ys rfl rfl hO2 (by omega) (by omega) (by omega) (by omega) ?_)
      intro g2 cap2 w2 hO3 hg3
      have hne := unhide AP wr g cap ys (unhide hk) hO2
      have K2 := hide (show w2.heap[w.heap.size]? = _ from (hg3.block w.heap.size (by omega) (by simp; exact fun e => hne e.symm)).trans (unhide hk))
      have hgb := (hO2.lt g rfl).1
      have B2 := hide (hb.grown hg3 (by omega) (fun k hk' => by cases hk'; exact hgb))
      have S2 : w.heap.size + 1 ≤ w2.heap.size := Nat.le_trans hs hg3.size
      have Y2 := hide (show ys ++ List.replicate 16 0 = xs ++ List.replicate ((j + 1) * 16) 0 by rw [unhide hy, List.append_assoc, List.replicate_append_replicate]; congr 2; omega)
      have O3 := hide (show Owns w2 w.heap.size (.slice (some ⟨g2, 0, none⟩) (ys ++ List.replicate 16 0).length cap2) (ys ++ List.replicate 16 0) by simpa using hO3)
      clear hO2 hO3 hg3 hk hO hb hne
      go_wp2_with fail
      go_roundw
      case rel => exact ⟨j + 1, g2, cap2, ys ++ List.replicate 16 0, by simp, by show (ys ++ List.replicate 16 (0 : Int)).length = _; have := unhide hyl; simp; omega, unhide Y2, .inr (by have := unhide hyl; omega), unhide O3, unhide K2, S2, unhide B2⟩
      case measure => simp; omega
    · have HX := hide (show ys.length = max xs.length ((at_ + 1) * 16) by have := unhide hyl; omega)
      have hO2 := unhide hO
      have hcap := owns_cap hO2
      have hds2 : (ds.take t).length = t := by simp [hds]; omega
      have hRs : Row wr (some ⟨bd, od, none⟩) (ds.take t).length (ds.take t) := by
        have hr := row_grow (unhide HRd) hb
        refine ⟨rfl, fun i hi => ?_⟩
        obtain ⟨b', o', e, hc⟩ := hr.2 i (by omega)
        refine ⟨b', o', e, ?_⟩
        rw [hc]
        have h1 : i < t := by omega
        have h2 : i < ds.length := by omega
        simp [List.getD, h1, h2]
      obtain ⟨w2, hcp, hO4, hon⟩ := owns_copy (w := wr.drew) (o := at_ * 16) (b := bd) (so := od) hO2 hRs (by omega) (ys.length - at_ * 16) (cap - at_ * 16) t cd (by rw [hds2]; exact Nat.min_eq_left (by omega))
      rw [hds2] at hcp
      have hgl := (hO2.lt g rfl).1
      have B2 := hide (show Below w.heap.size w w2 from hb.trans (show Below w.heap.size wr w2 from have h := hon.below (B := w.heap.size) hgl; ⟨h.os, h.tape, h.output, h.size, h.block⟩))
      have O4 := hide (show Owns w2 w.heap.size (.slice (some ⟨g, 0, none⟩) (max xs.length ((at_ + 1) * 16)) cap) (putD xs ⟨at_, ds⟩ t) by
        rw [← unhide HX]
        have e : putD xs ⟨at_, ds⟩ t = putB ys (at_ * 16) (ds.take t) := by
          unfold putD growD
          rw [unhide hy]
          simp only [Int.toNat_natCast]
          congr 3
          have := unhide HX
          have := unhide hyl
          omega
        rw [e]; exact hO4)
      have hne2 : ¬ cap = at_ * 16 := by omega
      clear hO2 hRs hO4 hon hk hO hb
      have hwrap : IntKind.i64.wrap ((at_ : Int) * 16) = (at_ : Int) * 16 := by rw [IntKind.wrap_i64]; omega
      have htn : ((at_ : Int) * 16).toNat = at_ * 16 := by omega
      have hle : (at_ : Int) * 16 ≤ (ys.length : Int) := by omega
      have hge : 0 ≤ (at_ : Int) * 16 := by omega
      have htc : (t : Int) ≤ (cd : Int) := by omega
      have ht0 : 0 ≤ (t : Int) := by omega
      go_wp2_with fail
      go_region_law (refine step_copy_eq rfl (.tmp 24) (.tmp 28) 22 rfl _ _ _ w2 rfl rfl hcp ?_)
      all_goals
        clear hcp
        go_wp2_with fail
        go_ret
        refine ⟨g, cap, ?_, unhide O4, unhide B2⟩
        rw [← unhide HX]
        rfl
end Go.Proofs.Ytdiakahaghggiaa
