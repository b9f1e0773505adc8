/-
  The program's reader of writes.
-/
import Derived.Test.YtdnneomdokcpeaaRcL
import Derived.Test.YtdnneomdokcpeaaRpJ
import Derived.Test.YtdnneomdokcpeaaVrT
import Derived.Deep.Cut
namespace Go.Proofs.Ytdnneomdokcpeaa
open Go.RowKit

/-- An append whose run is known. -/
theorem rc_wpApp {P : Program} {ops : Array Oper} {rest : List Oper} {o : Oper} {a : Act} {w : World} {Q : Exit → Act → World → Prop}
    (hg : o.guard = none) (s x : Operand) (t : TypeId) (hop : o.op = Op.call { callee := Callee.builtin Builtin.append, args := #[s, x], argTypes := #[t, t] })
    (vs vx v' : Value) (w' : World) (hs : a.eval s = vs) (hx : a.eval x = vx) (hrun : (Builtin.append_ #[t, t] o.type #[vs, vx]).run P w = .ok v' w') (h : wpList P ops Q rest (a.put o.dst v') w') :
    wpList P ops Q (o :: rest) a w :=
  wpList_plain hg fun _ hK => by
    unfold Oper.wp
    simp [execOp, hop, resolve, invoke, builtin, hs, hx, hrun, Result.andThen]
    exact hK _ _ h
/-- One version appended to a row of the call's own. -/
theorem rc_app {w : World} {B : Nat} {v : Value} {ds : List VerD} {d : VerD} (ho : VOwns w B v ds) (hz : ds.length ≤ 1000000) (hB : B ≤ w.heap.size) :
    ∃ v' w', (Builtin.append_ #[27, 27] 27 #[v, .slice (some ⟨w.heap.size, 0, none⟩) 1 1]).run Try.prog (w.alloc (.cells #[.string d.k, .int .i64 d.t, .string d.v, .bool d.g] 52)) = .ok v' w' ∧ VOwns w' B v' (ds ++ [d]) ∧ (w.alloc (.cells #[.string d.k, .int .i64 d.t, .string d.v, .bool d.g] 52)).grownBy w' v.ownBlock := by
  obtain ⟨i0, hi0, hz0, hz1, hz2⟩ := info_parts Try.infoVersion
  obtain ⟨v', w', hr, ho', hg, _⟩ := run_append_own (P := Try.prog) (w.alloc (.cells #[.string d.k, .int .i64 d.t, .string d.v, .bool d.g] 52)) B 27 27 52 i0 _ 4 48 Try.underlying27 hi0 hz0 hz1 hz2 rfl (by decide) v _ _ (World.ownsRow.alloc ho _) ⟨w.heap.size, 0, none⟩ 1 1 (vcs [d]) (by simp [vcs]) (fun j u hu => by
    have hj : j < 4 := by simpa [vcs] using (List.getElem?_eq_some_iff.1 hu).1
    have e2 : (⟨w.heap.size, 0, none⟩ : Addr).add j = ⟨w.heap.size, j, none⟩ := by unfold Addr.add; split <;> simp_all
    rw [e2]
    refine rb_cell_new rfl ?_
    match j, hj with
    | 0, _ => simpa [vcs] using hu
    | 1, _ => simpa [vcs] using hu
    | 2, _ => simpa [vcs] using hu
    | 3, _ => simpa [vcs] using hu) (vcs_one _) (by unfold maxLen; omega) (by omega) (by simp; omega)
  refine ⟨v', w', hr, ?_, hg⟩
  unfold VOwns
  rw [List.length_append, vcs_append]
  exact ho'
/-- What is left of the reader's bytes. -/
def restLen (w : World) (rb : Nat) : Nat := match w.cell? ⟨rb, 0, none⟩ with
  | some (.slice _ n _) => n
  | _ => 0
theorem rest_of {w : World} {rb D : Nat} {s : Rs} (h : RdAt w rb D s) : restLen w rb = s.1.length := by
  obtain ⟨a, n, c, h1, h2, _⟩ := h
  unfold restLen
  rw [(rd_cells h1).1]
  exact h2.1.symm
/-- A write that is being read: the list, the reader, the write's block. -/
structure WvSt (w wr : World) (rb D bx : Nat) (v : Value) (L : List VerD) (s : Rs) (cs : Array Value) : Prop where
  own : VOwns wr w.heap.size v L
  rd : RdAt wr rb D s
  hw : Wr (fun i => i = rb) w wr
  lt : rb < D ∧ D ≤ w.heap.size
  k : wr.heap[bx]? = some (.cells cs 52 (0, 0))
  far : w.heap.size ≤ bx ∧ v.ownBlock ≠ some bx
theorem WvSt.read {w wr w1 : World} {rb D bx : Nat} {v : Value} {L : List VerD} {s s' : Rs} {cs : Array Value} (h : WvSt w wr rb D bx v L s cs) (hr : RdAt w1 rb D s') (hw : Wr (fun i => i = rb) wr w1) : WvSt w w1 rb D bx v L s' cs :=
  have hl := h.lt
  have hf := h.far
  ⟨owns_wr h.own hw (fun i hi e => by have := (h.own.lt i hi).1; omega), hr, h.hw.trans hw, hl, loc_wr h.k hw (by omega), hf⟩
theorem WvSt.set {w wr : World} {rb D bx : Nat} {v : Value} {L : List VerD} {s : Rs} {cs : Array Value} (h : WvSt w wr rb D bx v L s cs) (j : Nat) (u : Value) : WvSt w (wr.setCell ⟨bx, j, none⟩ u) rb D bx v L s (cs.setIfInBounds j u) :=
  have hl := h.lt
  have hf := h.far
  have hc := wr_cell wr bx j u
  ⟨owns_wr h.own hc (fun i hi e => hf.2 (by rw [hi, e])), h.rd.wr hc (fun i e => by omega), ⟨hc.os.trans h.hw.os, hc.tape.trans h.hw.tape, hc.output.trans h.hw.output, Nat.le_trans h.hw.size hc.size, fun i hi hp => (hc.block i (Nat.lt_of_lt_of_le hi h.hw.size) (by omega)).trans (h.hw.block i hi hp)⟩, hl, heap_set h.k j u, hf⟩
theorem WvSt.fin {w wr w' : World} {rb D bx : Nat} {v : Value} {L : List VerD} {s : Rs} {cs : Array Value} {o : Obj} (h : WvSt w wr rb D bx v L s cs) (hg : (wr.alloc o).grownBy w' v.ownBlock) : RdAt w' rb D s ∧ Wr (fun i => i = rb) w w' := by
  have hl := h.lt
  have b : Below wr.heap.size wr (wr.alloc o) := (Below.refl _ _).alloc (Nat.le_refl _) _
  have hw1 : Wr (fun i => v.ownBlock = some i) (wr.alloc o) w' := Wr.of_grown hg (fun i e => e)
  refine ⟨(h.rd.below b).wr hw1 (fun i e => by have := (h.own.lt i e).1; omega), ⟨hg.os.trans (b.os.trans h.hw.os), hg.tape.trans (b.tape.trans h.hw.tape), hg.output.trans (b.output.trans h.hw.output), Nat.le_trans h.hw.size (Nat.le_trans b.size hg.size), fun i hi hp => ?_⟩⟩
  have hs := h.hw.size
  have hs1 := b.size
  exact (hw1.block i (by omega) (fun e => by have := (h.own.lt i e).1; omega)).trans ((b.block i (by omega)).trans (h.hw.block i hi hp))
set_option maxRecDepth 100000 in
set_option maxHeartbeats 4000000 in
theorem rWrites_any (rb D : Nat) (s0 : Rs) (t : Int) (w : World) (h : RdAt w rb D s0) (hb : By s0.1) (hD : D ≤ w.heap.size) (hl0 : s0.1.length ≤ 65536) :
    Calls Try.prog 38 #[.pointer (some ⟨rb, 0, none⟩), .int .i64 t] w fun e w' => ∃ v, e = .returned v ∧ VOwns w' w.heap.size v (rAll t s0) ∧ (rAll t s0).length ≤ 65536 ∧ Wr (fun i => i = rb) w w' := by
  have H := hide h
  have HB := hide hb
  have hlt := h.lt
  clear h hb
  go_enter Try.func38, Try.ntmps38
  go_wp2_with fail
  go_loopw [5] (fun v wr => ∃ (s : Rs) (L : List VerD), Hid (VOwns wr w.heap.size v L) ∧ Hid (RdAt wr rb D s) ∧ Hid (Wr (fun i => i = rb) w wr) ∧ Hid (By s.1) ∧ Hid (rAll t s0 = L ++ rAll t s) ∧ L.length + s.1.length ≤ 65536) (fun _ wr => restLen wr rb)
  case atStart => exact ⟨s0, [], World.ownsRow_nil _ _ _ _, unhide H, Wr.of_below (Below.refl _ _), unhide HB, rfl, by simpa using hl0⟩
  case round =>
    clear H HB
    obtain ⟨s, L, hO, hR, hW, hB, hE, hlen⟩ := hrel
    have hrest := rest_of (unhide hR)
    obtain ⟨a, n, c, h1, h2, _⟩ := unhide hR
    obtain ⟨c0, c1, f0, f1⟩ := rd_cells h1
    have hn : n = s.1.length := h2.1.symm
    clear h1 h2
    by_cases h0 : s.1 = []
    · have hn0 : n = 0 := by rw [hn, h0]; rfl
      subst hn0
      have Z := hide (show rAll t s0 = L by rw [unhide hE, rAll_nil t h0, List.append_nil])
      clear hn hrest
      go_wp2_with fail
      go_ret
      exact ⟨_, rfl, by rw [unhide Z]; exact unhide hO, by rw [unhide Z]; omega, unhide hW⟩
    · have hpos : 0 < s.1.length := List.length_pos_iff.2 h0
      have hng : (0 : Int) < (n : Int) := by omega
      have hless := ver_less t s h0
      have NE := hide h0
      clear h0
      have hsz := (unhide hW).size
      have B1 : Below wr.heap.size wr (wr.alloc (.cells #[.string ⟨#[]⟩, .int .i64 t, .string ⟨#[]⟩, .bool false] 52)) := (Below.refl _ _).alloc (Nat.le_refl _) _
      have ST := hide (show WvSt w (wr.alloc (.cells #[.string ⟨#[]⟩, .int .i64 t, .string ⟨#[]⟩, .bool false] 52)) rb D wr.heap.size u5 L s #[.string ⟨#[]⟩, .int .i64 t, .string ⟨#[]⟩, .bool false] from
        ⟨vowns_below (unhide hO) B1, (unhide hR).below B1, (unhide hW).trans (Wr.of_below B1), ⟨hlt.2, hD⟩, heap_alloc_new _ _, ⟨hsz, fun e => by have := ((unhide hO).lt _ e).2; omega⟩⟩)
      have HRS := hide hrest
      have HLS := hide hlen
      have hL : L.length ≤ 65536 := by omega
      clear hO hR hW B1 hn hrest hlen hpos
      have EV := hide (show rVer t s = (⟨(rText (rOne s).2).1, t, (rText (rText (rOne s).2).2).1, decide ((rOne s).1 = 2)⟩, (rText (rText (rOne s).2).2).2) from rfl)
      have BY1 := hide (good_one.by_ s (unhide hB))
      have BY2 := hide (good_text.by_ _ (unhide BY1))
      have BY3 := hide (good_text.by_ _ (unhide BY2))
      go_wp2_with fail
      generalize wr.alloc (.cells #[.string ⟨#[]⟩, .int .i64 t, .string ⟨#[]⟩, .bool false] 52) = W at *
      generalize wr.heap.size = bx at *
      clear c0 c1 f0 f1
      refine (one_any rb D s W (unhide ST).rd (unhide hB)).mono ?_
      rintro e w2 ⟨rfl, hr2, hw2⟩
      replace ST := hide ((unhide ST).read hr2 hw2)
      have m3 : w2.cell? ⟨bx, 3, none⟩ = some (.bool false) := (heap_at (unhide ST).k 3).1
      have z3 := (heap_at (unhide ST).k 3).2
      replace ST := hide ((unhide ST).set 3 (.bool (decide ((rOne s).1 = 2))))
      clear hr2 hw2
      generalize (rOne s).1 = x1 at *
      generalize (rOne s).2 = s1 at *
      have eb : (x1 == 2) = decide (x1 = 2) := rfl
      go_wp2_with fail
      first | rw [eb] | skip
      generalize w2.setCell ⟨bx, 3, none⟩ (.bool (decide (x1 = 2))) = w3 at *
      clear m3 z3
      refine (textR_any rb D s1 w3 (unhide ST).rd (unhide BY1)).mono ?_
      rintro e w4 ⟨rfl, hr4, hw4⟩
      replace ST := hide ((unhide ST).read hr4 hw4)
      have m0 : w4.cell? ⟨bx, 0, none⟩ = some (.string ⟨#[]⟩) := (heap_at (unhide ST).k 0).1
      have z0 := (heap_at (unhide ST).k 0).2
      generalize (rText s1).1 = tk at *
      generalize (rText s1).2 = s2 at *
      replace ST := hide ((unhide ST).set 0 (.string tk))
      clear hr4 hw4
      go_wp2_with fail
      generalize w4.setCell ⟨bx, 0, none⟩ (.string tk) = w5 at *
      clear m0 z0
      refine (textR_any rb D s2 w5 (unhide ST).rd (unhide BY2)).mono ?_
      rintro e w6 ⟨rfl, hr6, hw6⟩
      replace ST := hide ((unhide ST).read hr6 hw6)
      have m2 : w6.cell? ⟨bx, 2, none⟩ = some (.string ⟨#[]⟩) := (heap_at (unhide ST).k 2).1
      have z2 := (heap_at (unhide ST).k 2).2
      generalize (rText s2).1 = tv at *
      generalize (rText s2).2 = s3 at *
      replace ST := hide (show WvSt w (w6.setCell ⟨bx, 2, none⟩ (.string tv)) rb D bx u5 L s3 #[.string tk, .int .i64 t, .string tv, .bool (decide (x1 = 2))] from (unhide ST).set 2 (.string tv))
      clear hr6 hw6
      have n0 : (w6.setCell ⟨bx, 2, none⟩ (.string tv)).cell? ⟨bx, 0, none⟩ = some (.string tk) := (heap_at (unhide ST).k 0).1
      have n1 : (w6.setCell ⟨bx, 2, none⟩ (.string tv)).cell? ⟨bx, 1, none⟩ = some (.int .i64 t) := (heap_at (unhide ST).k 1).1
      have n2 : (w6.setCell ⟨bx, 2, none⟩ (.string tv)).cell? ⟨bx, 2, none⟩ = some (.string tv) := (heap_at (unhide ST).k 2).1
      have n3 : (w6.setCell ⟨bx, 2, none⟩ (.string tv)).cell? ⟨bx, 3, none⟩ = some (.bool (decide (x1 = 2))) := (heap_at (unhide ST).k 3).1
      go_upto_region 7 with fail
      generalize w6.setCell ⟨bx, 2, none⟩ (.string tv) = w7 at *
      clear m2 z2
      obtain ⟨v8, w8, hr8, o8, g8⟩ := rc_app (d := ⟨tk, t, tv, decide (x1 = 2)⟩) (unhide ST).own (by omega) (unhide ST).hw.size
      have FIN := hide ((unhide ST).fin g8)
      have O8 := hide o8
      clear g8 o8
      have hr8' := hr8
      simp only at hr8'
      go_wp2_with (at_builtin; refine rc_wpApp rfl (.tmp 25) (.tmp 27) 27 rfl _ _ v8 w8 rfl rfl hr8' ?_)
      have HRE := hide (rest_of (unhide FIN).1)
      have ELL := hide (show rAll t s0 = (L ++ [⟨tk, t, tv, decide (x1 = 2)⟩]) ++ rAll t s3 by
        rw [unhide hE, rAll_cons t (unhide NE), unhide EV]; simp)
      have hl3 : s3.1.length < s.1.length := by rw [unhide EV] at hless; exact hless
      clear n0 n1 n2 n3 hr8 hr8' hless EV hE
      go_roundw
      case rel => exact ⟨s3, _, unhide O8, (unhide FIN).1, (unhide FIN).2, unhide BY3, unhide ELL, by have := unhide HLS; simp; omega⟩
      case measure => (rw [unhide HRE]; have := unhide HRS; omega)
end Go.Proofs.Ytdnneomdokcpeaa
