/-
  LgQ, VoB, SzV, SeU, SeT, VvT, VvB, MkT, VrM, SeD, SeM, VrH, FnM, FnH, SeN, VzM, PrK, LsA, LsB, LsC, Src, SrcN, SrcM, PageO, FdD, FdE, SrcZ, KyD in one.
-/
import Derived.Test.YtdnjgbckkmbmfaaGreatLsAll4
import Derived.Test.YtdnjgbckkmbmfaaGreatLsAll6
import Derived.Deep.WholeRow
import Derived.Laws.BytesArg
import Derived.Deep.RegionWith
import Derived.Laws.Concat
set_option maxRecDepth 100000
namespace Go.Proofs.YtdnjgbckkmbmfaaGreat
open Go.RowKit

theorem LgAt.rd {w : World} {B lb m N : Nat} {h : ByteArray → Value} {f s : Sl} {hs : List SeH} {d : VsD} (q : LgAt w B lb m N h f s hs d) : LdRd w lb m N h f s hs d := by
 obtain ⟨fa, fn, fc⟩ := f
 obtain ⟨sa, sn, sc⟩ := s
 have hl := q.len
 have so := q.vz.so
 refine ⟨q.box, q.his.rd, frow_of_owns q.vz.fo, cap_of_owns (s := ⟨fa, fn, fc⟩) q.vz.fo, ?_, (cap_of_owns (s := ⟨sa, sn, sc⟩) so.row).2, fun x hx => ?_, q.vz.ss⟩
 ·have := so.reads
  rw [← hl.1] at this
  exact this
 ·obtain ⟨k, hk, rfl⟩ := List.getElem_of_mem hx
  exact cap_of_owns (so.dat k 0 _ (by unfold sbAt; rw [seEl_at hk]; rfl))
end Go.Proofs.YtdnjgbckkmbmfaaGreat

namespace Go.Proofs.YtdnjgbckkmbmfaaGreat
open Go.RowKit

theorem ok_top {d : VsD} (h : topK d = false) : false = okVsD d := by unfold okVsD; rw [h]; rfl
theorem top_yes {d : VsD} (h1 : 1 ≤ d.next) (h2 : d.next ≤ 1000) (h3 : d.list.length ≤ 4096) (h4 : d.fen.length ≤ 4096) (h5 : d.ses.length = 4) : topK d = true := decide_eq_true ⟨h1, h2, h3, h4, h5⟩
theorem top_no {d : VsD} (h : ¬ (1 ≤ d.next ∧ d.next ≤ 1000 ∧ d.list.length ≤ 4096 ∧ d.fen.length ≤ 4096 ∧ d.ses.length = 4)) : topK d = false := decide_eq_false h
theorem step_all {α : Type} {p : α → Bool} {l : List α} {k : Nat} (hk : k < l.length) (h : ∀ i (hi : i < l.length), i < k → p l[i] = true) (hp : p l[k] = true) : ∀ i (hi : i < l.length), i < k + 1 → p l[i] = true := fun i hi hik => by
 by_cases e : i < k
 ·exact h i hi e
 ·obtain rfl : i = k := by omega
  exact hp
set_option maxHeartbeats 8000000 in
theorem implVersionsOK_any (l f s : Sl) (rs : List SesR) (d : VsD) (w : World) (h : VsAt w l f s rs d) (hf : VsFew l f s rs) :
  Calls Tryz.prog 10 #[vsv d.next l f s] w fun e w' => e = .returned (.bool (okVsD d)) ∧ Below w.heap.size w w' := by
 obtain ⟨la, ln, lc⟩ := l
 obtain ⟨fa, fn, fc⟩ := f
 obtain ⟨sa, sn, sc⟩ := s
 have hmf : ∀ (fn : Fn) (first cap : Array Value) (w : World), (Instr.makeFunc fn first cap).run Tryz.prog w = .ok (.func fn first cap) w := fun _ _ _ _ => rfl
 have H := hide h
 have HF := hide hf
 have e1 : d.list.length = ln := h.v.1
 have e2 : d.fen.length = fn := h.f.1
 have e3 : d.ses.length = sn := h.ss.1.symm.trans h.s.1
 have TN := hide (fun (hx : ¬ (1 ≤ d.next ∧ d.next ≤ 1000 ∧ ln ≤ 4096 ∧ fn ≤ 4096 ∧ sn = 4)) => ok_top (top_no (by rw [e1, e2, e3]; exact hx)))
 have TY := hide (fun (h1 : 1 ≤ d.next) (h2 : d.next ≤ 1000) (h3 : ln ≤ 4096) (h4 : fn ≤ 4096) (h5 : sn = 4) => show okVsD d = (okVs d.list && (lateK d.list d.next && (d.fen.all (fenK d.next) && d.ses.all (sesK d.next)))) by
  unfold okVsD
  rw [top_yes h1 h2 (by rw [e1]; exact h3) (by rw [e2]; exact h4) (by rw [e3]; exact h5)]
  rfl)
 have EQ := hide (And.intro e1 (And.intro e2 e3))
 clear h hf e1 e2 e3
 have b0 : Below w.heap.size w (w.alloc (.cells #[.int .i64 d.next, .slice la ln lc, .slice fa fn fc, .slice sa sn sc] 29)) := (Below.refl _ _).alloc (Nat.le_refl _) _
 have k0 := heap_alloc_new w (.cells #[.int .i64 d.next, .slice la ln lc, .slice fa fn fc, .slice sa sn sc] 29)
 have K := hide k0
 clear k0
 unfold vsv
 simp only
 by_cases h1 : 1 ≤ d.next
 case neg =>
  have Z := hide (unhide TN (by omega))
  have g1 : d.next < 1 := by omega
  generalize d.next = nx at *
  clear TY TN H HF EQ
  go_enter Tryz.func10, Tryz.ntmps10
  go_wp2_with fail
  go_ret
  exact ⟨ret_bool (unhide Z), b0⟩
 by_cases h2 : d.next ≤ 1000
 case neg =>
  have Z := hide (unhide TN (by omega))
  have g1 : ¬ d.next < 1 := by omega
  have g2 : 1000 < d.next := by omega
  generalize d.next = nx at *
  clear TY TN H HF EQ
  go_enter Tryz.func10, Tryz.ntmps10
  go_wp2_with fail
  go_ret
  exact ⟨ret_bool (unhide Z), b0⟩
 by_cases h3 : ln ≤ 4096
 case neg =>
  have Z := hide (unhide TN (by omega))
  have g1 : ¬ d.next < 1 := by omega
  have g2 : ¬ 1000 < d.next := by omega
  have g3 : (4096 : Int) < (ln : Int) := by omega
  generalize d.next = nx at *
  clear TY TN H HF EQ
  go_enter Tryz.func10, Tryz.ntmps10
  go_wp2_with fail
  go_ret
  exact ⟨ret_bool (unhide Z), b0⟩
 by_cases h4 : fn ≤ 4096
 case neg =>
  have Z := hide (unhide TN (by omega))
  have g1 : ¬ d.next < 1 := by omega
  have g2 : ¬ 1000 < d.next := by omega
  have g3 : ¬ (4096 : Int) < (ln : Int) := by omega
  have g4 : (4096 : Int) < (fn : Int) := by omega
  generalize d.next = nx at *
  clear TY TN H HF EQ
  go_enter Tryz.func10, Tryz.ntmps10
  go_wp2_with fail
  go_ret
  exact ⟨ret_bool (unhide Z), b0⟩
 by_cases h5 : sn = 4
 case neg =>
  have Z := hide (unhide TN (by omega))
  have g1 : ¬ d.next < 1 := by omega
  have g2 : ¬ 1000 < d.next := by omega
  have g3 : ¬ (4096 : Int) < (ln : Int) := by omega
  have g4 : ¬ (4096 : Int) < (fn : Int) := by omega
  have g5 : ((sn : Int) != 4) = true := by simp [bne]; omega
  generalize d.next = nx at *
  clear TY TN H HF EQ
  go_enter Tryz.func10, Tryz.ntmps10
  go_wp2_with fail
  go_ret
  exact ⟨ret_bool (unhide Z), b0⟩
 subst h5
 have E := hide (unhide TY h1 h2 h3 h4 rfl)
 have g1 : ¬ d.next < 1 := by omega
 have g2 : ¬ 1000 < d.next := by omega
 have g3 : ¬ (4096 : Int) < (ln : Int) := by omega
 have g4 : ¬ (4096 : Int) < (fn : Int) := by omega
 clear TY TN h1 h2
 obtain ⟨nx, hnx⟩ : ∃ nx, nx = d.next := ⟨_, rfl⟩
 rw [← hnx] at g1 g2 b0 K E ⊢
 have HNX := hide hnx
 clear hnx
 go_enter Tryz.func10, Tryz.ntmps10
 go_wp2_with fail
 generalize w.alloc (.cells #[.int .i64 nx, .slice la ln lc, .slice fa fn fc, .slice sa 4 sc] 29) = W at *
 generalize hbx : w.heap.size = bx at *
 clear g1 g2 g3 g4
 refine (listOK_any la ln lc d.list W (by omega) ((by subst hbx; exact (unhide H).below b0 : VsAt W ⟨la, ln, lc⟩ ⟨fa, fn, fc⟩ ⟨sa, 4, sc⟩ rs d)).v).mono ?_
 rintro e w1 ⟨rfl, hb⟩
 replace K := hide ((hb.block bx (Array.getElem?_eq_some_iff.1 (unhide K)).1).trans (unhide K))
 replace b0 := b0.trans (hb.mono (by subst hbx; exact b0.size))
 clear hb
 have HH := hide (show ∀ u, Below bx w u → VsAt u ⟨la, ln, lc⟩ ⟨fa, fn, fc⟩ ⟨sa, 4, sc⟩ rs d from fun u hu => by subst hbx; exact (unhide H).below hu)
 have hbs : bx ≤ w1.heap.size := by subst hbx; exact b0.size
 generalize okVs d.list = ok1 at *
 cases ok1
 ·have Z := hide (show false = okVsD d by rw [unhide E]; rfl)
  have c1 : w1.cell? ⟨bx, 1, none⟩ = some (.slice la ln lc) := (heap_at (unhide K) 1).1
  go_wp2_with fail
  go_ret
  exact ⟨ret_bool (unhide Z), by subst hbx; exact b0⟩
 have c0 : w1.cell? ⟨bx, 0, none⟩ = some (.int .i64 nx) := (heap_at (unhide K) 0).1
 have c1 : w1.cell? ⟨bx, 1, none⟩ = some (.slice la ln lc) := (heap_at (unhide K) 1).1
 have CL := hide (containsLate_any bx la ln lc d.list nx w1 (by omega) (unhide HH w1 b0).v c0)
 replace E := hide (show okVsD d = (lateK d.list nx && (d.fen.all (fenK nx) && d.ses.all (sesK nx))) by rw [unhide E]; rfl)
 clear c0
 go_wp2_with fail
 refine (unhide CL).mono ?_
 rintro e w2 ⟨rfl, hb⟩
 replace K := hide ((hb.block bx (Array.getElem?_eq_some_iff.1 (unhide K)).1).trans (unhide K))
 replace b0 := b0.trans (hb.mono hbs)
 replace hbs := Nat.le_trans hbs hb.size
 clear hb CL c1
 generalize lateK d.list nx = ok2 at *
 cases ok2
 ·have Z := hide (show false = okVsD d by rw [unhide E]; rfl)
  go_wp2_with fail
  go_ret
  exact ⟨ret_bool (unhide Z), by subst hbx; exact b0⟩
 replace E := hide (show okVsD d = (d.fen.all (fenK nx) && d.ses.all (sesK nx)) by rw [unhide E]; rfl)
 have c2 : w2.cell? ⟨bx, 2, none⟩ = some (.slice fa fn fc) := (heap_at (unhide K) 2).1
 go_wp2_with fail
 clear c2
 go_loopw [48] (fun i wr => ∃ k : Nat, k ≤ fn ∧ i = .int .i64 k ∧ Hid (∀ i (hi : i < d.fen.length), i < k → fenK nx d.fen[i] = true) ∧ Hid (Below bx w wr) ∧ Hid (wr.heap[bx]? = some (.cells #[.int .i64 nx, .slice la ln lc, .slice fa fn fc, .slice sa 4 sc] 29 (0, 0))) ∧ bx ≤ wr.heap.size) (fun i _ => fn - (intOf i).toNat)
 case atStart => exact ⟨0, Nat.zero_le _, rfl, (fun i _ hi => absurd hi (Nat.not_lt_zero _)), b0, unhide K, hbs⟩
 case round =>
  clear b0 K hbs
  obtain ⟨k, hk, rfl, hA, hB, hK, hbs⟩ := hrel
  by_cases hlt : k < fn
  ·have hk2 : k < d.fen.length := by rw [(unhide EQ).2.1]; exact hlt
   obtain ⟨b, off, rfl, d0, d1, d2⟩ := (unhide HH _ (unhide hB)).f.2 k hk2
   have C := hide (fenceOK_any d.fen[k] nx)
   have FZ := hide (fun (hf : fenK nx d.fen[k] = false) => show false = okVsD d by rw [unhide E, all_false hk2 hf]; rfl)
   have FY := hide (step_all (p := fenK nx) hk2 (unhide hA))
   generalize fenK nx d.fen[k] = fk at *
   generalize d.fen[k] = pd at *
   obtain ⟨pf, pu, pt⟩ := pd
   unfold fv at C
   simp only at d0 d1 d2 C
   have B1 : Below wr.heap.size wr (wr.alloc (.cells #[.string pf, .string pu, .int .i64 pt] 85)) := (Below.refl _ _).alloc (Nat.le_refl _) _
   have K1 := hide ((B1.block bx (Array.getElem?_eq_some_iff.1 (unhide hK)).1).trans (unhide hK))
   have B2 := hide ((unhide hB).trans (B1.mono hbs))
   have hs2 := Nat.le_trans hbs B1.size
   have x0 : (wr.alloc (.cells #[.string pf, .string pu, .int .i64 pt] 85)).cell? ⟨bx, 0, none⟩ = some (.int .i64 nx) := (heap_at (unhide K1) 0).1
   clear B1 hB hK hA
   go_wp2_with fail
   generalize wr.alloc (.cells #[.string pf, .string pu, .int .i64 pt] 85) = W2 at *
   refine (unhide C W2).mono ?_
   rintro e w3 ⟨rfl, hb⟩
   have K3 := hide ((hb.block bx (Array.getElem?_eq_some_iff.1 (unhide K1)).1).trans (unhide K1))
   have B3 := hide ((unhide B2).trans (hb.mono hs2))
   have hs3 := Nat.le_trans hs2 hb.size
   clear hb d0 d1 d2 x0 C K1 B2 hs2
   cases fk
   ·have Z := hide (unhide FZ rfl)
    clear FZ FY
    go_wp2_with fail
    go_ret
    exact ⟨ret_bool (unhide Z), by subst hbx; exact unhide B3⟩
   ·have Z := hide (unhide FY rfl)
    clear FZ FY
    go_wp2_with fail
    go_roundw
    case rel => exact ⟨k + 1, by omega, by go_num, unhide Z, unhide B3, unhide K3, hs3⟩
    case measure => simp [intOf]; omega
  ·obtain rfl : k = fn := by omega
   have E' := hide (show okVsD d = d.ses.all (sesK nx) by
    rw [unhide E, all_true fun i hi => unhide hA i hi (by have := (unhide EQ).2.1; omega)]; rfl)
   have c3 : wr.cell? ⟨bx, 3, none⟩ = some (.slice sa 4 sc) := (heap_at (unhide hK) 3).1
   clear hA E
   go_wp2_with fail
   clear c3
   go_loopw [61] (fun i wr => ∃ k : Nat, k ≤ 4 ∧ i = .int .i64 k ∧ Hid (∀ i (hi : i < d.ses.length), i < k → sesK nx d.ses[i] = true) ∧ Hid (Below bx w wr) ∧ Hid (∃ f0 fn' fc', wr.heap[bx]? = some (.cells #[.int .i64 nx, .slice la ln lc, .slice f0 fn' fc', .slice sa 4 sc] 29 (0, 0))) ∧ bx ≤ wr.heap.size) (fun i _ => 4 - (intOf i).toNat)
   case atStart => exact ⟨0, Nat.zero_le _, rfl, (fun i _ hi => absurd hi (Nat.not_lt_zero _)), unhide hB, ⟨_, _, _, unhide hK⟩, hbs⟩
   case round =>
    clear hB hK hbs
    obtain ⟨j, hj, rfl, hA, hB, hK, hbs⟩ := hrel
    by_cases hlt2 : j < 4
    ·have hj2 : j < d.ses.length := by rw [(unhide EQ).2.2]; exact hlt2
     have hj3 : j < rs.length := by rw [(unhide HH _ (unhide hB)).ss.1]; exact hj2
     obtain ⟨b, off, rfl, d0, d1, d2⟩ := (unhide HH _ (unhide hB)).s.2 j hj3
     obtain ⟨f0, fn', fc', hK⟩ := unhide hK
     have C := hide (show ∀ u, Below bx w u → Calls Tryz.prog 42 #[sv rs[j], .int .i64 nx] u fun e w' => e = .returned (.bool (sesK nx d.ses[j])) ∧ Below u.heap.size u w' from fun u hu => by
      obtain ⟨p1, p2, p3⟩ := (unhide HH u hu).ss.2 j hj3 hj2
      exact sessionOK_any rs[j] d.ses[j] nx u p1 p2 p3 ((unhide HF).w j hj3))
     have FZ := hide (fun (hf : sesK nx d.ses[j] = false) => show false = okVsD d by rw [unhide E', all_false hj2 hf])
     have FY := hide (step_all (p := sesK nx) hj2 (unhide hA))
     generalize sesK nx d.ses[j] = fk at *
     generalize rs[j] = pd at *
     obtain ⟨po, pt, pa, pn, pc⟩ := pd
     unfold sv at C
     simp only at d0 d1 d2 C
     have B1 : Below wr.heap.size wr (wr.alloc (.cells #[.bool po, .int .i64 pt, .slice pa pn pc] 55)) := (Below.refl _ _).alloc (Nat.le_refl _) _
     have K1 := hide ((B1.block bx (Array.getElem?_eq_some_iff.1 hK).1).trans hK)
     have B2 := hide ((unhide hB).trans (B1.mono hbs))
     have hs2 := Nat.le_trans hbs B1.size
     have x0 : (wr.alloc (.cells #[.bool po, .int .i64 pt, .slice pa pn pc] 55)).cell? ⟨bx, 0, none⟩ = some (.int .i64 nx) := (heap_at (unhide K1) 0).1
     clear B1 hB hK hA
     go_wp2_with fail
     generalize wr.alloc (.cells #[.bool po, .int .i64 pt, .slice pa pn pc] 55) = W2 at *
     refine (unhide C W2 (unhide B2)).mono ?_
     rintro e w3 ⟨rfl, hb⟩
     have K3 := hide ((hb.block bx (Array.getElem?_eq_some_iff.1 (unhide K1)).1).trans (unhide K1))
     have B3 := hide ((unhide B2).trans (hb.mono hs2))
     have hs3 := Nat.le_trans hs2 hb.size
     clear hb d0 d1 d2 x0 C K1 B2 hs2
     cases fk
     ·have Z := hide (unhide FZ rfl)
      clear FZ FY
      go_wp2_with fail
      go_ret
      exact ⟨ret_bool (unhide Z), by subst hbx; exact unhide B3⟩
     ·have Z := hide (unhide FY rfl)
      clear FZ FY
      go_wp2_with fail
      go_roundw
      case rel => exact ⟨j + 1, by omega, by go_num, unhide Z, unhide B3, ⟨_, _, _, unhide K3⟩, hs3⟩
      case measure => simp [intOf]; omega
    ·obtain rfl : j = 4 := by omega
     have Z := hide (show true = okVsD d by rw [unhide E', all_true fun i hi => unhide hA i hi (by have := (unhide EQ).2.2; omega)])
     go_wp2_with fail
     go_ret
     exact ⟨ret_bool (unhide Z), by subst hbx; exact unhide hB⟩
end Go.Proofs.YtdnjgbckkmbmfaaGreat

namespace Go.Proofs.YtdnjgbckkmbmfaaGreat
open Go.RowKit

def vsN (d : VsD) : Nat := d.list.length + d.fen.length + d.ses.length + (d.ses.map (fun s => s.ws.length)).sum
end Go.Proofs.YtdnjgbckkmbmfaaGreat

namespace Go.Proofs.YtdnjgbckkmbmfaaGreat
open Go.RowKit

end Go.Proofs.YtdnjgbckkmbmfaaGreat

namespace Go.Proofs.YtdnjgbckkmbmfaaGreat
open Go.RowKit

end Go.Proofs.YtdnjgbckkmbmfaaGreat

namespace Go.Proofs.YtdnjgbckkmbmfaaGreat
open Go.RowKit

structure VzR (w : World) (l f s : Sl) (hs : List SeH) (d : VsD) : Prop where
 v : VRow w l.a l.n d.list
 f : FRow w f.a f.n d.fen
 s : SeIn w (.slice s.a s.n s.c) s.n hs
 ss : hs.map (·.X) = d.ses
theorem sum_mem {ss : List SesD} {x : SesD} (h : x ∈ ss) : x.ws.length ≤ (ss.map (fun s => s.ws.length)).sum := by
 induction ss with
 | nil => cases h
 | cons y r ih =>
  rw [List.map_cons, List.sum_cons]
  rcases List.mem_cons.1 h with rfl | h
  ·omega
  ·have := ih h
   omega
structure VzF (l f s : Sl) (hs : List SeH) : Prop where
 l : l.n ≤ 1048576
 f : f.n ≤ 1048576
 s : s.n ≤ 1048576
 w : ∀ h ∈ hs, h.s0.n ≤ 1048576
theorem VzR.few {w : World} {l f s : Sl} {hs : List SeH} {d : VsD} (h : VzR w l f s hs d) (hd : vsN d ≤ 1048576) : VzF l f s hs := by
 have e1 := h.v.1
 have e2 := h.f.1
 have e3 : hs.length = s.n := by have := h.s.len; simpa using this
 have e4 : hs.length = d.ses.length := by rw [← h.ss, List.length_map]
 unfold vsN at hd
 refine ⟨by omega, by omega, by omega, fun x hx => ?_⟩
 obtain ⟨k, hk, rfl⟩ := List.getElem_of_mem hx
 have e5 := rowC_lenV (SeIn.sub h.s hk)
 have e6 := sum_mem (ss := d.ses) (x := hs[k].X) (by rw [← h.ss]; exact List.mem_map_of_mem hx)
 omega
theorem vzr_of {w : World} {l f s : Sl} {hs : List SeH} {d : VsD} (h : VzIn w l f s hs d) : VzR w l f s hs d := ⟨h.vr, h.fr, h.sr, h.ss⟩
theorem vsfew_of {w : World} {l f s : Sl} {hs : List SeH} {d : VsD} (h : VzIn w l f s hs d) (hd : vsN d ≤ 1048576) : VsFew l f s (hs.map seR) := by
 have e := (vzr_of h).few hd
 exact ⟨e.l, e.f, e.s, fun i hi => by rw [List.getElem_map]; exact e.w _ (List.getElem_mem _)⟩
end Go.Proofs.YtdnjgbckkmbmfaaGreat

namespace Go.Proofs.YtdnjgbckkmbmfaaGreat
open Go.RowKit

end Go.Proofs.YtdnjgbckkmbmfaaGreat

namespace Go.Proofs.YtdnjgbckkmbmfaaGreat
open Go.RowKit

end Go.Proofs.YtdnjgbckkmbmfaaGreat

namespace Go.Proofs.YtdnjgbckkmbmfaaGreat
open Go.RowKit

end Go.Proofs.YtdnjgbckkmbmfaaGreat

namespace Go.Proofs.YtdnjgbckkmbmfaaGreat
open Go.RowKit

end Go.Proofs.YtdnjgbckkmbmfaaGreat

namespace Go.Proofs.YtdnjgbckkmbmfaaGreat
open Go.RowKit

end Go.Proofs.YtdnjgbckkmbmfaaGreat

namespace Go.Proofs.YtdnjgbckkmbmfaaGreat
open Go.RowKit

end Go.Proofs.YtdnjgbckkmbmfaaGreat

namespace Go.Proofs.YtdnjgbckkmbmfaaGreat
open Go.RowKit

end Go.Proofs.YtdnjgbckkmbmfaaGreat

namespace Go.Proofs.YtdnjgbckkmbmfaaGreat
open Go.RowKit

end Go.Proofs.YtdnjgbckkmbmfaaGreat

namespace Go.Proofs.YtdnjgbckkmbmfaaGreat
open Go.RowKit

end Go.Proofs.YtdnjgbckkmbmfaaGreat

namespace Go.Proofs.YtdnjgbckkmbmfaaGreat
open Go.RowKit

end Go.Proofs.YtdnjgbckkmbmfaaGreat

namespace Go.Proofs.YtdnjgbckkmbmfaaGreat
open Go.RowKit

end Go.Proofs.YtdnjgbckkmbmfaaGreat

namespace Go.Proofs.YtdnjgbckkmbmfaaGreat
open Go.RowKit

def TuRes (d : VsD) (a : TxD) (w : World) (e : Ending) (w' : World) : Prop := ∃ (l f s : Sl) (hs : List SeH) (r : Sl), e = .returned (.tuple #[.agg (vzC (stepV d a).1.next l f s), .agg (repC (stepV d a).2.code (stepV d a).2.time (stepV d a).2.val r), .int .i64 0]) ∧ VzOwn w' w.heap.size l f s hs (stepV d a).1 ∧ EOwns w' w.heap.size (.slice r.a r.n r.c) (stepV d a).2.list ∧ Below w.heap.size w w'
theorem fourBx {w : World} {c1 c2 c3 c4 : Array Value} {t1 t2 t3 t4 : TypeId} {W : World} (hW : W = (((w.alloc (.cells c1 t1)).alloc (.cells c2 t2)).alloc (.cells c3 t3)).alloc (.cells c4 t4)) :
  Below w.heap.size w W ∧ W.heap[w.heap.size]? = some (.cells c1 t1 (0, 0)) ∧ W.heap[w.heap.size + 1]? = some (.cells c2 t2 (0, 0)) ∧ W.heap[w.heap.size + 1 + 1]? = some (.cells c3 t3 (0, 0)) ∧ W.heap[w.heap.size + 1 + 1 + 1]? = some (.cells c4 t4 (0, 0)) := by
 subst hW
 exact ⟨allocC_bel [(c1, t1), (c2, t2), (c3, t3), (c4, t4)] w, allocC_at [(c1, t1), (c2, t2), (c3, t3), (c4, t4)] w 0 c1 t1 rfl, allocC_at [(c1, t1), (c2, t2), (c3, t3), (c4, t4)] w 1 c2 t2 rfl, allocC_at [(c1, t1), (c2, t2), (c3, t3), (c4, t4)] w 2 c3 t3 rfl, allocC_at [(c1, t1), (c2, t2), (c3, t3), (c4, t4)] w 3 c4 t4 rfl⟩
theorem vz_small {w : World} {l f s : Sl} {hs : List SeH} {d : VsD} (h : VzIn w l f s hs d) {k : Nat} (hr : RunV d k) (hk : k ≤ 4096) : VsFew l f s (hs.map seR) := by
 have h1 := hr.cnt
 have h2 := hr.fen
 have h3 := hr.ses
 have h4 : (d.ses.map (fun s => s.ws.length)).sum = (d.ses.map (·.ws.length)).sum := rfl
 exact vsfew_of h (by unfold vsN; omega)
set_option maxHeartbeats 8000000 in
theorem implTxStep_any (d : VsD) (k : Nat) (a : TxD) (l f s : Sl) (hs : List SeH) (w : World) (hI : VzIn w l f s hs d) (hcs : s.a = none → s.c = 0) (R : RunV d k) (hk : k ≤ 190) (hsz : a.key.size ≤ 65536 ∧ a.to.size ≤ 65536 ∧ a.val.size ≤ 65536) :
  Calls Tryz.prog 17 #[.agg (vzC d.next l f s), xv a] w (TuRes d a w) := by
 have R2 := R.step a
 have okD := R.okD (by omega)
 have few := vz_small hI R (by omega)
 have hln : l.n ≤ 4096 := by have := hI.vr.1; have := R.cnt; omega
 have hvs : ∀ i (hi : i < d.list.length), d.list[i].k.size ≤ maxLen := fun i hi => by have := verK_small (okVs_ver R.ok hi); unfold maxLen; omega
 obtain ⟨kd, ses, key, tt, val⟩ := a
 obtain ⟨la, ln, lc⟩ := l
 obtain ⟨fa, fn, fc⟩ := f
 obtain ⟨sa, sn, sc⟩ := s
 obtain ⟨W, hW⟩ : ∃ W, W = (((w.alloc (.cells #[.int .i64 d.next, .slice la ln lc, .slice fa fn fc, .slice sa sn sc] 29)).alloc (.cells #[.int .i64 kd, .int .i64 ses, .string key, .string tt, .string val] 37)).alloc (.cells #[.int .i64 0, .slice none 0 0, .slice none 0 0, .slice none 0 0] 29)).alloc (.cells zRep 40) := ⟨_, rfl⟩
 obtain ⟨bW, k2, k3, k4, k5⟩ := fourBx hW
 have CO := hide (implVersionsOK_any ⟨la, ln, lc⟩ ⟨fa, fn, fc⟩ ⟨sa, sn, sc⟩ (hs.map seR) d W (vs_of_vz (hI.below bW)) few)
 have CL := hide (fun (u : World) (hu : Below W.heap.size W u) => ledgerOf_any d ⟨la, ln, lc⟩ ⟨fa, fn, fc⟩ ⟨sa, sn, sc⟩ hs u ((hI.below bW).below hu) hcs few hln hvs)
 rw [okD] at CO
 unfold vsv at CO
 unfold vzC at CL ⊢
 unfold xv
 simp only at CO CL hsz ⊢
 have hz := bW.size
 have BW := hide bW
 have K2 := hide k2
 have K3 := hide k3
 have K4 := hide k4
 have K5 := hide k5
 have h0 : ¬ (65536 : Int) < (key.size : Int) := by omega
 have h1 : ¬ (65536 : Int) < (tt.size : Int) := by omega
 have h2 : ¬ (65536 : Int) < (val.size : Int) := by omega
 have v0 := (heap_at k2 0).1
 have v1 := (heap_at k2 1).1
 have v2 := (heap_at k2 2).1
 have v3 := (heap_at k2 3).1
 have a0 := (heap_at k3 0).1
 have a1 := (heap_at k3 1).1
 have a2 := (heap_at k3 2).1
 have a3 := (heap_at k3 3).1
 have a4 := (heap_at k3 4).1
 clear bW k2 k3 k4 k5 okD few hI hvs hln hsz hcs
 go_enter Tryz.func17, Tryz.ntmps17
 go_upto_region 1 with fail
 rw [← hW]
 clear hW
 go_wp2_with fail
 refine (unhide CO).mono ?_
 rintro e w1 ⟨rfl, hb1⟩
 have B1 := hide hb1
 have CL1 := hide (unhide CL w1 hb1)
 replace v0 := (hb1.cell (cell_lt v0)).trans v0
 replace v1 := (hb1.cell (cell_lt v1)).trans v1
 replace v2 := (hb1.cell (cell_lt v2)).trans v2
 replace v3 := (hb1.cell (cell_lt v3)).trans v3
 clear CO CL hb1 a0 a1 a2 a3 a4 h0 h1 h2
 go_wp2_with fail
 refine (unhide CL1).mono ?_
 rintro e w2 ⟨lb, m, N, h, f2, s2, hs2, rfl, hL, hN, hX, hb2⟩
 have B2 := hide ((unhide B1).trans (hb2.mono (unhide B1).size))
 have Q := hide (LdAt.lg hL hX)
 have k3 := ((unhide B2).block _ (blk_lt (unhide K3))).trans (unhide K3)
 have a0 := (heap_at k3 0).1
 have a1 := (heap_at k3 1).1
 have a2 := (heap_at k3 2).1
 have a3 := (heap_at k3 3).1
 have a4 := (heap_at k3 4).1
 have hb12 := hb2.size
 have CA := hide (act_any lb w1.heap.size m N k h f2 s2 hs2 d ⟨kd, ses, key, tt, val⟩ w2 (unhide Q) R (by omega) (by omega) hb12)
 unfold xv at CA
 simp only at CA
 clear v0 v1 v2 v3 CL1 hL hX hb2 k3 R
 generalize hp : stepV d ⟨kd, ses, key, tt, val⟩ = p at *
 have HP := hide hp
 clear hp
 go_wp2_with fail
 refine (unhide CA).mono ?_
 rintro e w3 ⟨N3, h3, f3, hs3, ⟨ra, rn, rc⟩, rfl, q3, o3, lw3, hN3⟩
 simp only at o3
 have k4 := lw3.box (((unhide B2).block _ (blk_lt (unhide K4))).trans (unhide K4)) ⟨by decide, by decide, by decide, by decide⟩
 have k5 := lw3.box (((unhide B2).block _ (blk_lt (unhide K5))).trans (unhide K5)) ⟨by decide, by decide, by decide, by decide⟩
 have b3 := (unhide B2).trans ((lw3.below hb12).mono (by have := (unhide B1).size; omega))
 obtain ⟨U, hU⟩ : ∃ U, U = w3.alloc (.cells #[.int .i64 p.2.code, .int .i64 p.2.time, .string p.2.val, .slice ra rn rc] 40) := ⟨_, rfl⟩
 have bU : Below w3.heap.size w3 U := by rw [hU]; exact (Below.refl _ _).alloc (Nat.le_refl _) _
 have k8 : U.heap[w3.heap.size]? = some (.cells #[.int .i64 p.2.code, .int .i64 p.2.time, .string p.2.val, .slice ra rn rc] 40 (0, 0)) := by rw [hU]; exact heap_alloc_new _ _
 have qU := q3.below bU
 have hlen := qU.len
 have CV := hide (fun (u : World) (hu : Below U.heap.size U u) => versions_any lb m N3 h3 f3 s2 hs3 p.1 u (qU.below hu).rd R2.ok (by omega) (by have := R2.cnt; omega) (by have := R2.fen; omega) (by have := R2.ses; omega) (fun x hx => by
  obtain ⟨j, hj, rfl⟩ := List.getElem_of_mem hx
  have h1 := (SeIn.row qU.vz.so.reads hj).1
  have h2 := qU.vz.ss
  simp only at h2
  have h3 : hs3[j].X ∈ p.1.ses := by rw [← h2]; exact List.mem_map.2 ⟨hs3[j], List.getElem_mem hj, rfl⟩
  have := sesK_ws (R2.sk _ h3)
  omega))
 have BU := hide ((unhide BW).trans ((b3.trans (bU.mono b3.size)).mono hz))
 have HZ3 := hide (show w.heap.size + 1 + 1 + 1 < U.heap.size from Nat.lt_of_lt_of_le (blk_lt k5) bU.size)
 have KK := hide (show ∀ u, Below U.heap.size U u → u.heap[w.heap.size + 1 + 1]? = _ ∧ u.heap[w.heap.size + 1 + 1 + 1]? = _ ∧ u.heap[w3.heap.size]? = _ ∧ EOwns u w.heap.size (.slice ra rn rc) p.2.list from fun u hu => ⟨(hu.block _ (Nat.lt_of_lt_of_le (blk_lt k4) bU.size)).trans ((bU.block _ (blk_lt k4)).trans k4), (hu.block _ (Nat.lt_of_lt_of_le (blk_lt k5) bU.size)).trans ((bU.block _ (blk_lt k5)).trans k5), (hu.block _ (blk_lt k8)).trans k8, gd_base (rb_ownsRow_below (rb_ownsRow_below o3 bU) hu) (Nat.le_trans (unhide BW).size (unhide B2).size)⟩)
 have SK := hide (show ∀ u : World, u.heap[w3.heap.size]? = some (.cells #[.int .i64 p.2.code, .int .i64 p.2.time, .string p.2.val, .slice ra rn rc] 40 (0, 0)) → (fun u : World => u.cell? ⟨w3.heap.size, 0, none⟩ = some (.int .i64 p.2.code) ∧ u.cell? ⟨w3.heap.size, 1, none⟩ = some (.int .i64 p.2.time) ∧ u.cell? ⟨w3.heap.size, 2, none⟩ = some (.string p.2.val) ∧ u.cell? ⟨w3.heap.size, 3, none⟩ = some (.slice ra rn rc)) u from fun u hk => ⟨(heap_at hk 0).1, (heap_at hk 1).1, (heap_at hk 2).1, (heap_at hk 3).1⟩)
 have T0 := hide (Below.refl U.heap.size U).drew
 have NE := hide (show w3.heap.size ≠ w.heap.size + 1 + 1 ∧ w3.heap.size ≠ w.heap.size + 1 + 1 + 1 ∧ w.heap.size + 1 + 1 + 1 ≠ w.heap.size + 1 + 1 from ⟨by have := blk_lt k4; omega, by have := blk_lt k5; omega, by omega⟩)
 have K8 := hide (show U.drew.heap[w3.heap.size]? = _ from k8)
 clear q3 o3 lw3 k4 k5 b3 bU k8 qU hlen CA a0 a1 a2 a3 a4 B2 B1 K2 K3 K4 K5 Q R2 BW hz hb12
 go_upto_region 7 with fail
 rw [← hU]
 clear hU
 refine wp_region_held_drew (S := (fun u : World => u.cell? ⟨w3.heap.size, 0, none⟩ = some (.int .i64 p.2.code) ∧ u.cell? ⟨w3.heap.size, 1, none⟩ = some (.int .i64 p.2.time) ∧ u.cell? ⟨w3.heap.size, 2, none⟩ = some (.string p.2.val) ∧ u.cell? ⟨w3.heap.size, 3, none⟩ = some (.slice ra rn rc))) (by kernel_rfl) (unhide SK _ (unhide K8)) (fun hHeld => ?_)
 refine tk 0 37 rfl rfl hHeld ?_
 simp only [Act.put, lA, lB, lC]
 refine tk 2 39 rfl rfl hHeld ?_
 simp only [Act.put, lA, lB, lC]
 refine rd [1] (.cons rfl (fun K hK => ?_) .nil)
 go_simp
 refine (unhide CV _ (unhide T0)).mono ?_
 rintro e u1 ⟨⟨l5a, l5n, l5c⟩, ⟨f5a, f5n, f5c⟩, ⟨s5a, s5n, s5c⟩, hs5, rfl, O5, hb5⟩
 have T1 := hide ((unhide T0).trans (hb5.mono (unhide T0).size))
 obtain ⟨c4, c5, c8, e5⟩ := unhide KK u1 (unhide T1)
 have ow5 := O5.dn (show w.heap.size ≤ _ from Nat.le_trans (unhide BU).size (unhide T0).size)
 have hw4 := sv4_wr u1 (w.heap.size + 1 + 1) (.int .i64 p.1.next) (.slice l5a l5n l5c) (.slice f5a f5n f5c) (.slice s5a s5n s5c)
 have d4 := sv4_heap c4 (.int .i64 p.1.next) (.slice l5a l5n l5c) (.slice f5a f5n f5c) (.slice s5a s5n s5c)
 have d5 := (hw4.block (w.heap.size + 1 + 1 + 1) (blk_lt c5) (unhide NE).2.2).trans c5
 have d8 := (hw4.block w3.heap.size (blk_lt c8) (unhide NE).1).trans c8
 have ow4 := ow5.box c4 (by decide) (by decide) (by decide) hw4
 have e4 := own_keep e5 c4 (by decide) hw4
 have hw5 := sv4_wr (sv4 u1 (w.heap.size + 1 + 1) (.int .i64 p.1.next) (.slice l5a l5n l5c) (.slice f5a f5n f5c) (.slice s5a s5n s5c)) (w.heap.size + 1 + 1 + 1) (.int .i64 p.2.code) (.int .i64 p.2.time) (.string p.2.val) (.slice ra rn rc)
 have g5 := sv4_heap d5 (.int .i64 p.2.code) (.int .i64 p.2.time) (.string p.2.val) (.slice ra rn rc)
 have g4 := (hw5.block (w.heap.size + 1 + 1) (blk_lt d4) (fun e => (unhide NE).2.2 e.symm)).trans d4
 have g8 := (hw5.block w3.heap.size (blk_lt d8) (unhide NE).2.1).trans d8
 have ow6 := ow4.box d5 (by decide) (by decide) (by decide) hw5
 have e6 := own_keep e4 d5 (by decide) hw5
 have b6 := bel_sv4 (bel_sv4 ((unhide BU).trans ((unhide T1).mono (unhide BU).size)) (show w.heap.size ≤ (w.heap.size + 1 + 1) by omega) (.int .i64 p.1.next) (.slice l5a l5n l5c) (.slice f5a f5n f5c) (.slice s5a s5n s5c)) (show w.heap.size ≤ (w.heap.size + 1 + 1 + 1) by omega) (.int .i64 p.2.code) (.int .i64 p.2.time) (.string p.2.val) (.slice ra rn rc)
 have x0 := (heap_at c4 0).1
 have x1 := (heap_at c4 1).1
 have x2 := (heap_at c4 2).1
 have x3 := (heap_at c4 3).1
 have xf0 := (heap_at c4 0).2
 have xf1 := (heap_at c4 1).2
 have xf2 := (heap_at c4 2).2
 have xf3 := (heap_at c4 3).2
 have y0 := (heap_at d5 0).1
 have y1 := (heap_at d5 1).1
 have y2 := (heap_at d5 2).1
 have y3 := (heap_at d5 3).1
 have yf0 := (heap_at d5 0).2
 have yf1 := (heap_at d5 1).2
 have yf2 := (heap_at d5 2).2
 have yf3 := (heap_at d5 3).2
 have S1 := hide (unhide SK u1 c8)
 have S2 := hide (unhide SK _ d8)
 have S3 := hide (unhide SK _ g8)
 have G4 := hide g4
 have G5 := hide g5
 have OW := hide ow6
 have EW := hide e6
 have BE := hide b6
 unfold sv4 at G4 G5 OW EW BE S2 S3 y0 y1 y2 y3 yf0 yf1 yf2 yf3
 clear c4 c5 c8 d4 d5 d8 g4 g5 g8 ow5 ow4 ow6 e4 e5 e6 b6 hw4 hw5 O5 hb5 KK CV SK T0 T1 NE K8
 refine hK.out _ _ (unhide S1) (fun hHeld => ?_)
 clear hK K
 refine rd [3] (.cons rfl (fun K hK => ?_) .nil)
 go_simp
 clear x0 x1 x2 x3 xf0 xf1 xf2 xf3
 refine hK.out _ _ (unhide S2) (fun hHeld => ?_)
 clear hK K
 refine rd [4] (.cons rfl (fun K hK => ?_) .nil)
 go_simp
 clear y0 y1 y2 y3 yf0 yf1 yf2 yf3
 refine hK.out _ _ (unhide S3) (fun hHeld => ?_)
 clear hK K
 refine tk 5 6 rfl rfl hHeld ?_
 simp only [Act.put, lA, lB, lC]
 refine wpAnyH_done (by kernel_rfl) ?_ _
 clear hHeld S1 S2 S3
 have x0 := (heap_at (unhide G4) 0).1
 have x1 := (heap_at (unhide G4) 1).1
 have x2 := (heap_at (unhide G4) 2).1
 have x3 := (heap_at (unhide G4) 3).1
 have y0 := (heap_at (unhide G5) 0).1
 have y1 := (heap_at (unhide G5) 1).1
 have y2 := (heap_at (unhide G5) 2).1
 have y3 := (heap_at (unhide G5) 3).1
 have RES := hide (show TuRes d ⟨kd, ses, key, tt, val⟩ w _ _ from ⟨⟨l5a, l5n, l5c⟩, ⟨f5a, f5n, f5c⟩, ⟨s5a, s5n, s5c⟩, hs5, ⟨ra, rn, rc⟩, rfl, by rw [unhide HP]; exact unhide OW, by rw [unhide HP]; exact unhide EW, unhide BE⟩)
 rw [unhide HP] at RES
 clear G4 G5 OW EW BE
 go_wp2_with fail
 refine bodyPost_ret (v := .tuple #[.agg #[.int .i64 p.1.next, .slice l5a l5n l5c, .slice f5a f5n f5c, .slice s5a s5n s5c], .agg #[.int .i64 p.2.code, .int .i64 p.2.time, .string p.2.val, .slice ra rn rc], .int .i64 0]) (by simp [results, Tryz.results17, go_sem, *]) rfl ?_
 exact unhide RES
end Go.Proofs.YtdnjgbckkmbmfaaGreat

namespace Go.Proofs.YtdnjgbckkmbmfaaGreat
open Go.RowKit

abbrev exV : ByteArray := ⟨#[120]⟩
def ltA (key : ByteArray) : List TxD := [⟨1, 3, ⟨#[]⟩, ⟨#[]⟩, ⟨#[]⟩⟩, ⟨4, 3, key, ⟨#[]⟩, exV⟩]
def ltB : List TxD := [⟨1, 2, ⟨#[]⟩, ⟨#[]⟩, ⟨#[]⟩⟩, ⟨3, 2, ⟨#[]⟩, ⟨#[]⟩, ⟨#[]⟩⟩, ⟨6, 3, ⟨#[]⟩, ⟨#[]⟩, ⟨#[]⟩⟩]
def ltX (d : VsD) (key : ByteArray) : VerD := ⟨key, d.next, exV, false⟩
def lt1 (d : VsD) : VsD := ⟨d.next + 1, d.list, d.fen, d.ses.set 3 ⟨true, d.next, []⟩⟩
def lt2 (d : VsD) (key : ByteArray) : VsD := ⟨d.next + 1, d.list, d.fen, d.ses.set 3 ⟨true, d.next, [ltX d key]⟩⟩
def lt3 (d : VsD) (key : ByteArray) : VsD := ⟨d.next + 1, insV d.list (ltX d key), d.fen, d.ses.set 3 clS⟩
def lt0 (d : VsD) (key : ByteArray) : VsD := ⟨d.next + 1, d.list, d.fen, (d.ses.set 3 ⟨true, d.next, [ltX d key]⟩).set 2 clS⟩
def lt4 (d : VsD) (key : ByteArray) : VsD := ⟨d.next + 1 + 1, d.list, d.fen, ((d.ses.set 3 ⟨true, d.next, [ltX d key]⟩).set 2 clS).set 2 ⟨true, d.next + 1, []⟩⟩
def lt5 (d : VsD) (key : ByteArray) : VsD := ⟨d.next + 1 + 1, d.list, d.fen ++ [⟨⟨#[]⟩, ⟨#[]⟩, d.next + 1⟩], ((d.ses.set 3 ⟨true, d.next, [ltX d key]⟩).set 2 clS).set 2 ⟨true, d.next + 1, []⟩⟩
def lt6 (d : VsD) (key : ByteArray) : VsD := ⟨d.next + 1 + 1, d.list, d.fen ++ [⟨⟨#[]⟩, ⟨#[]⟩, d.next + 1⟩], (((d.ses.set 3 ⟨true, d.next, [ltX d key]⟩).set 2 clS).set 2 ⟨true, d.next + 1, []⟩).set 3 clS⟩
theorem step_ses {d : VsD} {a : TxD} {i : Nat} {s : SesD} (hk : 1 ≤ a.kind ∧ a.kind ≤ 7) (hi : i < 4) (ha : a.ses = (i : Int)) (hs : d.ses[i]? = some s) : stepV d a = sesV d a i s := by
 unfold stepV
 rw [if_neg (fun h => h hk), if_neg (by omega), ha, Int.toNat_natCast, List.getD_eq_getElem?_getD, hs]
 rfl
theorem lt_1 {d : VsD} {k : Nat} (_r : RunV d k) (hn : d.next + 2 ≤ 1000) {s : SesD} (hs : d.ses[3]? = some s) (ho : s.o = false) : stepV d ⟨1, 3, ⟨#[]⟩, ⟨#[]⟩, ⟨#[]⟩⟩ = (lt1 d, repV 0 d.next) := by
 rw [step_ses (i := 3) ⟨by decide, by decide⟩ (by decide) rfl hs]
 unfold sesV
 rw [if_pos rfl, if_neg (by rw [ho]; decide), if_neg (by omega)]
 rfl
theorem lt_2 {d : VsD} {k : Nat} (r : RunV d k) {key : ByteArray} (hkey : keyK key = true) : stepV (lt1 d) ⟨4, 3, key, ⟨#[]⟩, exV⟩ = (lt2 d key, repV 0 d.next) := by
 have hl : 3 < d.ses.length := by rw [r.ses]; decide
 rw [step_ses (i := 3) (s := ⟨true, d.next, []⟩) ⟨by show (1 : Int) ≤ 4; decide, by show (4 : Int) ≤ 7; decide⟩ (by decide) rfl (by show (d.ses.set 3 _)[3]? = _; rw [List.getElem?_set_self hl])]
 have hf : fitA ⟨4, 3, key, ⟨#[]⟩, exV⟩ = true := by
  unfold fitA
  rw [if_pos (.inr (.inl rfl))]
  simp only [hkey, Bool.true_and]
  rfl
 unfold sesV
 rw [if_neg (show ¬ ((4 : Int) = 1) by decide), if_neg (show ¬ (true = false) by decide), if_neg (by rw [hf]; decide)]
 unfold inV
 rw [if_neg (show ¬ ((4 : Int) = 2) by decide), if_neg (show ¬ ((4 : Int) = 3) by decide), if_pos (.inl rfl)]
 have e : insV ([] : List VerD) (wrA ⟨4, 3, key, ⟨#[]⟩, exV⟩ d.next) = [ltX d key] := rfl
 simp only
 rw [e, if_neg (show ¬ (8 < [ltX d key].length) by simp)]
 unfold lt1 lt2
 simp only [List.set_set]
theorem late_no {d : VsD} {k : Nat} (r : RunV d k) (key : ByteArray) : ∀ d' : VsD, d'.list = d.list → d'.fen = d.fen → conV d' (ltX d key) = false := fun d' e1 e2 => by
 unfold conV
 rw [e1, e2, Bool.or_eq_false_iff]
 refine ⟨List.any_eq_false.2 fun y hy => ?_, List.any_eq_false.2 fun f hf => ?_⟩
 ·have := r.late y hy
  simp only [Bool.and_eq_true, decide_eq_true_eq, not_and]
  intro _
  show ¬ d.next < y.t
  omega
 ·have := r.fk f hf
  unfold fenK at this
  simp only [Bool.and_eq_true, decide_eq_true_eq] at this
  simp only [Bool.and_eq_true, decide_eq_true_eq, not_and]
  intro h
  have h2 : d.next < f.t := h
  omega
theorem lt_3 {d : VsD} {k : Nat} (r : RunV d k) (key : ByteArray) : stepV (lt2 d key) ⟨6, 3, ⟨#[]⟩, ⟨#[]⟩, ⟨#[]⟩⟩ = (lt3 d key, repV 0 d.next) := by
 have hl : 3 < d.ses.length := by rw [r.ses]; decide
 rw [step_ses (i := 3) (s := ⟨true, d.next, [ltX d key]⟩) ⟨by decide, by decide⟩ (by decide) rfl (by show (d.ses.set 3 _)[3]? = _; rw [List.getElem?_set_self hl])]
 unfold sesV
 rw [if_neg (by decide), if_neg (show ¬ (true = false) by decide), if_neg (by decide)]
 unfold inV
 rw [if_neg (by decide), if_neg (by decide), if_neg (by decide), if_pos rfl]
 have e : [ltX d key].any (conV (lt2 d key)) = false := by
  rw [List.any_cons, late_no r key (lt2 d key) rfl rfl]
  rfl
 simp only
 rw [e, if_neg (by decide)]
 unfold lt2 lt3
 simp only [List.set_set]
 rfl
theorem ins_last {x : VerD} : ∀ L : List VerD, (∀ y ∈ L, ltV y x = true) → insV L x = L ++ [x]
 | [], _ => rfl
 | e :: r, h => by
  rw [insV_cons, if_pos (h e (List.mem_cons_self ..)), ins_last r (fun y hy => h y (List.mem_cons_of_mem _ hy))]
  rfl
theorem lt_ver {d : VsD} {k : Nat} (r : RunV d k) (key : ByteArray) : verAt (insV d.list (ltX d key)) key d.next = some (ltX d key) := by
 have hp := okVs_pair r.ok
 have e := grp_ins_same (ltX d key) d.list hp
 have hL : ∀ y ∈ grp d.list key, ltV y (ltX d key) = true := fun y hy => by
  have h1 := grp_mem.1 hy
  have h2 := r.late y h1.1
  unfold ltV
  rw [Bool.or_eq_true]
  right
  rw [Bool.and_eq_true, decide_eq_true_eq, decide_eq_true_eq]
  exact ⟨h1.2, h2⟩
 have e2 : grp (insV d.list (ltX d key)) key = grp d.list key ++ [ltX d key] := e.trans (ins_last _ hL)
 unfold verAt lastAt
 rw [e2, List.filter_append, List.filter_cons_of_pos (by show decide (d.next ≤ d.next) = true; simp), List.filter_nil, List.getLast?_append]
 rfl
theorem lt_4 {d : VsD} {k : Nat} (r : RunV d k) (hn : d.next + 2 ≤ 1000) (key : ByteArray) : stepV (lt0 d key) ⟨1, 2, ⟨#[]⟩, ⟨#[]⟩, ⟨#[]⟩⟩ = (lt4 d key, repV 0 (d.next + 1)) := by
 have hl : 2 < (d.ses.set 3 ⟨true, d.next, [ltX d key]⟩).length := by rw [List.length_set, r.ses]; decide
 rw [step_ses (i := 2) (s := clS) ⟨by decide, by decide⟩ (by decide) rfl (by show ((d.ses.set 3 _).set 2 clS)[2]? = _; rw [List.getElem?_set_self hl])]
 unfold sesV
 rw [if_pos rfl, if_neg (by decide), if_neg (by show ¬ d.next + 1 = 1000; omega)]
 rfl
theorem lt_5 {d : VsD} {k : Nat} (r : RunV d k) (hk : k < 4096) (key : ByteArray) : ∃ p, stepV (lt4 d key) ⟨3, 2, ⟨#[]⟩, ⟨#[]⟩, ⟨#[]⟩⟩ = (lt5 d key, p) := by
 have hl : 2 < ((d.ses.set 3 ⟨true, d.next, [ltX d key]⟩).set 2 clS).length := by rw [List.length_set, List.length_set, r.ses]; decide
 rw [step_ses (i := 2) (s := ⟨true, d.next + 1, []⟩) ⟨by decide, by decide⟩ (by decide) rfl (by show (((d.ses.set 3 _).set 2 clS).set 2 _)[2]? = _; rw [List.getElem?_set_self hl])]
 unfold sesV
 rw [if_neg (by decide), if_neg (show ¬ (true = false) by decide), if_neg (by decide)]
 unfold inV
 rw [if_neg (by decide), if_pos rfl]
 unfold fenV
 rw [if_neg (by have := r.fen; show ¬ d.fen.length = 4096; omega)]
 exact ⟨_, rfl⟩
theorem lt_6 {d : VsD} {k : Nat} (r : RunV d k) (key : ByteArray) : stepV (lt5 d key) ⟨6, 3, ⟨#[]⟩, ⟨#[]⟩, ⟨#[]⟩⟩ = (lt6 d key, repV 9 d.next) := by
 have hl : 3 < d.ses.length := by rw [r.ses]; decide
 rw [step_ses (i := 3) (s := ⟨true, d.next, [ltX d key]⟩) ⟨by decide, by decide⟩ (by decide) rfl (by
  show (((d.ses.set 3 _).set 2 clS).set 2 _)[3]? = _
  rw [List.getElem?_set_ne (by decide), List.getElem?_set_ne (by decide), List.getElem?_set_self hl])]
 unfold sesV
 rw [if_neg (by decide), if_neg (show ¬ (true = false) by decide), if_neg (by decide)]
 unfold inV
 rw [if_neg (by decide), if_neg (by decide), if_neg (by decide), if_pos rfl]
 have hin : inK ⟨#[]⟩ ⟨#[]⟩ key = true := by
  have e0 : (⟨#[]⟩ : ByteArray).toList = [] := by rw [ByteArray.toList_eq]
  have h1 : ltK key ⟨#[]⟩ = false := by
   unfold ltK
   rw [e0]
   cases key.toList <;> rfl
  unfold inK
  rw [h1, e0]
  rfl
 have e : [ltX d key].any (conV (lt5 d key)) = true := by
  rw [List.any_cons, Bool.or_eq_true]
  left
  unfold conV
  rw [Bool.or_eq_true]
  right
  rw [List.any_eq_true]
  refine ⟨⟨⟨#[]⟩, ⟨#[]⟩, d.next + 1⟩, List.mem_append_right _ (List.mem_singleton.2 rfl), ?_⟩
  rw [Bool.and_eq_true, decide_eq_true_eq]
  exact ⟨by show d.next < d.next + 1; omega, hin⟩
 simp only
 rw [if_pos e]
 rfl
end Go.Proofs.YtdnjgbckkmbmfaaGreat

namespace Go.Proofs.YtdnjgbckkmbmfaaGreat
open Go.RowKit

structure LvSt (w1 wr : World) (vb ab : Nat) (l f s : Sl) (hs : List SeH) (d : VsD) (ac : List TxD) : Prop where
 bel : Below w1.heap.size w1 wr
 own : VzOwn wr w1.heap.size l f s hs d
 box : wr.heap[vb]? = some (.cells (vzC d.next l f s) 29 (0, 0))
 vge : w1.heap.size ≤ vb
 acts : XOwns wr w1.heap.size (.slice (some ⟨ab, 0, none⟩) ac.length ac.length) ac
theorem LvSt.below {w1 w w' : World} {vb ab : Nat} {l f s : Sl} {hs : List SeH} {d : VsD} {ac : List TxD} (h : LvSt w1 w vb ab l f s hs d ac) (hb : Below w.heap.size w w') : LvSt w1 w' vb ab l f s hs d ac :=
 ⟨h.bel.trans (hb.mono h.bel.size), h.own.below hb, (hb.block vb (blk_lt h.box)).trans h.box, h.vge, rb_ownsRow_below h.acts hb⟩
theorem LvSt.lay {w1 w u : World} {vb ab : Nat} {l f s l' f' s' : Sl} {hs hs' : List SeH} {d d' : VsD} {ac : List TxD} (h : LvSt w1 w vb ab l f s hs d ac) (hb : Below w.heap.size w u) (o : VzOwn u w1.heap.size l' f' s' hs' d') : LvSt w1 (sv4 u vb (.int .i64 d'.next) (.slice l'.a l'.n l'.c) (.slice f'.a f'.n f'.c) (.slice s'.a s'.n s'.c)) vb ab l' f' s' hs' d' ac := by
 have hu := h.below hb
 have hw := sv4_wr u vb (.int .i64 d'.next) (.slice l'.a l'.n l'.c) (.slice f'.a f'.n f'.c) (.slice s'.a s'.n s'.c)
 exact ⟨hu.bel.trans (WrB.below hw (fun i e => by rw [e]; exact h.vge) hu.bel.size), o.box hu.box (by decide) (by decide) (by decide) hw, sv4_heap hu.box _ _ _ _, h.vge, own_keep hu.acts hu.box (by decide) hw⟩
theorem LvSt.beside {w1 w : World} {vb ab rb : Nat} {l f s : Sl} {hs : List SeH} {d : VsD} {ac : List TxD} (h : LvSt w1 w vb ab l f s hs d ac) {cs : Array Value} (hr : w.heap[rb]? = some (.cells cs 40 (0, 0))) (hge : w1.heap.size ≤ rb) (v0 v1 v2 v3 : Value) : LvSt w1 (sv4 w rb v0 v1 v2 v3) vb ab l f s hs d ac := by
 have hw := sv4_wr w rb v0 v1 v2 v3
 refine ⟨h.bel.trans (WrB.below hw (fun i e => by rw [e]; exact hge) h.bel.size), h.own.box hr (by decide) (by decide) (by decide) hw, (hw.block vb (blk_lt h.box) (fun e => ?_)).trans h.box, h.vge, own_keep h.acts hr (by decide) hw⟩
 rw [← e, h.box] at hr
 injection hr with hr
 injection hr with _ hr _
 exact absurd hr (by decide)
theorem xlit (w : World) (B : Nat) (hB : B ≤ w.heap.size) (ac : List TxD) (cs : Array Value) (hc : cs.toList = xcs ac) (hl : ac.length ≤ 10) : XOwns (w.alloc (.cells cs 37)) B (.slice (some ⟨w.heap.size, 0, none⟩) ac.length ac.length) ac := by
 have h1 : cs.size = ac.length * 5 := by rw [← Array.length_toList, hc, xcs_len]
 have := World.ownsRow_lit (base := B) (e := 37) (size := 5) w cs ac.length hB (by unfold maxLen; omega) h1
 rw [hc] at this
 exact this
structure RgL (w1 wr u : World) (p : VsD × RepD) (res : Option (Sl × Sl × Sl × List SeH × Sl)) (b8 b9 : Option Nat) : Prop where
 bel : Below wr.heap.size wr u
 r : ∀ l f s hs r, res = some (l, f, s, hs, r) → VzOwn u w1.heap.size l f s hs p.1
 e8 : ∀ b, b8 = some b → wr.heap.size ≤ b ∧ u.heap[b]? = some (.cells #[.int .i64 0, .slice none 0 0, .slice none 0 0, .slice none 0 0] 29 (0, 0))
 e9 : ∀ b, b9 = some b → wr.heap.size ≤ b ∧ u.heap[b]? = some (.cells #[.int .i64 0, .int .i64 0, .string ⟨#[]⟩, .slice none 0 0] 40 (0, 0))
theorem RgL.step {w1 wr u u' : World} {p : VsD × RepD} {res : Option (Sl × Sl × Sl × List SeH × Sl)} {b8 b9 : Option Nat} (h : RgL w1 wr u p res b8 b9) (hb : Below u.heap.size u u') : RgL w1 wr u' p res b8 b9 :=
 ⟨h.bel.trans (hb.mono h.bel.size), fun l f s hs r e => (h.r l f s hs r e).below hb, fun b e => ⟨(h.e8 b e).1, (hb.block b (blk_lt (h.e8 b e).2)).trans (h.e8 b e).2⟩, fun b e => ⟨(h.e9 b e).1, (hb.block b (blk_lt (h.e9 b e).2)).trans (h.e9 b e).2⟩⟩
theorem RgL.lit8 {w1 wr u : World} {p : VsD × RepD} {res : Option (Sl × Sl × Sl × List SeH × Sl)} {b9 : Option Nat} (h : RgL w1 wr u p res none b9) : RgL w1 wr (u.alloc (.cells #[.int .i64 0, .slice none 0 0, .slice none 0 0, .slice none 0 0] 29)) p res (some u.heap.size) b9 := by
 have s := h.step ((Below.refl u.heap.size u).alloc (Nat.le_refl _) (.cells #[.int .i64 0, .slice none 0 0, .slice none 0 0, .slice none 0 0] 29))
 refine ⟨s.bel, s.r, fun b e => ?_, s.e9⟩
 injection e with e
 subst e
 exact ⟨h.bel.size, heap_alloc_new _ _⟩
theorem RgL.lit9 {w1 wr u : World} {p : VsD × RepD} {res : Option (Sl × Sl × Sl × List SeH × Sl)} {b8 : Option Nat} (h : RgL w1 wr u p res b8 none) : RgL w1 wr (u.alloc (.cells #[.int .i64 0, .int .i64 0, .string ⟨#[]⟩, .slice none 0 0] 40)) p res b8 (some u.heap.size) := by
 have s := h.step ((Below.refl u.heap.size u).alloc (Nat.le_refl _) (.cells #[.int .i64 0, .int .i64 0, .string ⟨#[]⟩, .slice none 0 0] 40))
 refine ⟨s.bel, s.r, s.e8, fun b e => ?_⟩
 injection e with e
 subst e
 exact ⟨h.bel.size, heap_alloc_new _ _⟩
theorem RgL.call {w1 wr u u' : World} {d : VsD} {a : TxD} {p : VsD × RepD} {b8 b9 : Option Nat} {e : Ending} (h : RgL w1 wr u p none b8 b9) (hW : w1.heap.size ≤ wr.heap.size) (hp : stepV d a = p) (hr : TuRes d a u e u') :
  ∃ (l' f' s' : Sl) (hs' : List SeH) (r : Sl), e = .returned (.tuple #[.agg #[.int .i64 p.1.next, .slice l'.a l'.n l'.c, .slice f'.a f'.n f'.c, .slice s'.a s'.n s'.c], .agg #[.int .i64 p.2.code, .int .i64 p.2.time, .string p.2.val, .slice r.a r.n r.c], .int .i64 0]) ∧ RgL w1 wr u' p (some (l', f', s', hs', r)) b8 b9 := by
 subst hp
 obtain ⟨l', f', s', hs', r, he, hv, -, hb⟩ := hr
 have s := h.step hb
 refine ⟨l', f', s', hs', r, he, s.bel, fun l2 f2 s2 hs2 r2 e2 => ?_, s.e8, s.e9⟩
 injection e2 with e2
 injection e2 with e1 e2
 injection e2 with e3 e2
 injection e2 with e4 e2
 injection e2 with e5 e6
 subst e1 e3 e4 e5 e6
 exact hv.dn (Nat.le_trans hW h.bel.size)
end Go.Proofs.YtdnjgbckkmbmfaaGreat

namespace Go.Proofs.YtdnjgbckkmbmfaaGreat
open Go.RowKit

structure Src (w : World) (p : Nat) (a : Option Addr) (n c : Nat) (xs : List Int) (K : Int) : Prop where
 code : w.cell? ⟨p, 0, none⟩ = some (.slice a n c)
 place : ∃ t : Int, w.cell? ⟨p, 1, none⟩ = some (.int .i64 t) ∧ 0 ≤ t ∧ t ≤ K
 seed : ∃ s : Int, w.cell? ⟨p, 2, none⟩ = some (.int .i64 s) ∧ 0 ≤ s ∧ s < 2147483648
 free : ∀ j, w.frozen? ⟨p, j, none⟩ = false
 row : Row w a n xs
 bytes : ∀ i, i < n → 0 ≤ xs.getD i 0 ∧ xs.getD i 0 ≤ 255
 apart : ∀ x, a = some x → 0 < n → x.block ≠ p
 bound : n ≤ 1048576

theorem Only.drewN {p k : Nat} {w w1 : World} (h : Only p w w1) : Only p w (w1.drewN k) := ⟨h.os, h.tape, h.output, h.size, h.block, h.frozen⟩

theorem Only.drew {p : Nat} {w w1 : World} (h : Only p w w1) : Only p w w1.drew := ⟨h.os, h.tape, h.output, h.size, h.block, h.frozen⟩
theorem src_step {w w' : World} {p : Nat} {a : Option Addr} {n c : Nat} {xs : List Int} {K t s : Int} (ho : Only p w w') (h0 : w'.cell? ⟨p, 0, none⟩ = some (.slice a n c)) (h1 : w'.cell? ⟨p, 1, none⟩ = some (.int .i64 t))
  (h2 : w'.cell? ⟨p, 2, none⟩ = some (.int .i64 s)) (ht : 0 ≤ t) (htK : t ≤ K) (hs : 0 ≤ s) (hs1 : s < 2147483648) (hf : ∀ j, w.frozen? ⟨p, j, none⟩ = false) (hr : Row w a n xs)
  (hb : ∀ i, i < n → 0 ≤ xs.getD i 0 ∧ xs.getD i 0 ≤ 255) (ha : ∀ x, a = some x → 0 < n → x.block ≠ p) (hn : n ≤ 1048576) : Src w' p a n c xs K := by
 refine ⟨h0, ⟨t, h1, ht, htK⟩, ⟨s, h2, hs, hs1⟩, fun j => (ho.frozen _).trans (hf j), ?_, hb, ha, hn⟩
 by_cases hp : 0 < n
 ·exact hr.of_cells fun x hx q hq => ho.cell (by rw [hq]; exact ha x hx hp)
 ·exact ⟨hr.1, fun i hi => absurd hi (by omega)⟩

set_option maxHeartbeats 1000000 in
theorem byte_any (p : Nat) (a : Option Addr) (n c : Nat) (xs : List Int) (K : Int) (w : World) (h : Src w p a n c xs K) (hK : K ≤ 1000000) :
  Calls Tryz.prog 97 #[.pointer (some ⟨p, 0, none⟩)] w fun e w' => ∃ r : Int, e = .returned (.int .i64 r) ∧ 0 ≤ r ∧ r ≤ 255 ∧ Only p w w' ∧ Src w' p a n c xs (K + 1) := by
 obtain ⟨hc, ⟨t, ht, ht0, htK⟩, ⟨s, hs, hs0, hs1⟩, hf, hr, hby, hap, hbd⟩ := h
 have f1 := hf 1
 have f2 := hf 2
 have R := hide hr
 have BY := hide hby
 have AP := hide hap
 have HF := hide hf
 clear hf hr hby hap
 by_cases hlt : t + 1 ≤ (n : Int)
 ·obtain ⟨k, rfl⟩ := Int.eq_ofNat_of_zero_le ht0
  obtain ⟨b, off, rfl, e1⟩ := (unhide R).2 k (by omega)
  obtain ⟨x0, x1⟩ := unhide BY k (by omega)
  generalize hx : xs.getD k 0 = x at *
  have hne : ¬ b = p := unhide AP _ rfl (by omega)
  clear hx
  go_enter Tryz.func97, Tryz.ntmps97
  go_wp2_with fail
  go_quiet (fail)
  go_wp2_with fail
  have d0 : ((w.setCell ⟨p, 1, none⟩ (.int .i64 ((k : Int) + 1))).drewN nq).cell? ⟨p, 0, none⟩ = some (.slice (some ⟨b, off, none⟩) n c) := (World.cell?_setCell_other _ _ _ _ (by intro h; simp at h)).trans hc
  have d1 : ((w.setCell ⟨p, 1, none⟩ (.int .i64 ((k : Int) + 1))).drewN nq).cell? ⟨p, 1, none⟩ = some (.int .i64 ((k : Int) + 1)) := World.cell?_setCell_same _ _ _ ht
  have d2 : ((w.setCell ⟨p, 1, none⟩ (.int .i64 ((k : Int) + 1))).drewN nq).cell? ⟨p, 2, none⟩ = some (.int .i64 s) := (World.cell?_setCell_other _ _ _ _ (by intro h; simp at h)).trans hs
  have dr : ((w.setCell ⟨p, 1, none⟩ (.int .i64 ((k : Int) + 1))).drewN nq).cell? ⟨b, off + k, none⟩ = some (.int .u8 x) := (World.cell?_setCell_other _ _ _ _ (by intro h; simp only [Addr.mk.injEq] at h; exact hne h.1.symm)).trans e1
  have df : ((w.setCell ⟨p, 1, none⟩ (.int .i64 ((k : Int) + 1))).drewN nq).frozen? ⟨p, 2, none⟩ = false := by simpa using f2
  have dO : Only p w ((w.setCell ⟨p, 1, none⟩ (.int .i64 ((k : Int) + 1))).drewN nq) := Only.drewN (Only.setCell _ _ _ _)
  have DO := hide dO
  clear dO hc ht hs e1 f1 f2
  generalize (w.setCell ⟨p, 1, none⟩ (.int .i64 ((k : Int) + 1))).drewN nq = W1 at *
  go_region
  go_wp2_with fail
  go_quiet (fail)
  go_wp2_with fail
  go_ret
  refine ⟨x, rfl, x0, x1, Only.drewN (Only.drew ((unhide DO).trans (Only.setCell _ _ _ _))), ?_⟩
  refine src_step (t := (k : Int) + 1) (Only.drewN (Only.drew ((unhide DO).trans (Only.setCell _ _ _ _)))) ((World.cell?_setCell_other _ _ _ _ (by intro h; simp at h)).trans d0) ((World.cell?_setCell_other _ _ _ _ (by intro h; simp at h)).trans d1) (World.cell?_setCell_same _ _ _ d2) (by omega) (by omega) ?_ ?_ (unhide HF) (unhide R) (unhide BY) (unhide AP) hbd
  all_goals omega
 ·have hgt : (n : Int) < t + 1 := by omega
  clear hlt
  by_cases h3 : 3000 < t + 1
  ·go_enter Tryz.func97, Tryz.ntmps97
   go_wp2_with fail
   go_quiet (fail)
   go_wp2_with fail
   go_ret
   have hO := Only.drewN (k := nq) (Only.setCell w p 1 (.int .i64 (t + 1)))
   exact ⟨0, rfl, by omega, by omega, hO, src_step (t := t + 1) (s := s) hO ((World.cell?_setCell_other _ _ _ _ (by intro h; simp at h)).trans hc) (World.cell?_setCell_same _ _ _ ht) ((World.cell?_setCell_other _ _ _ _ (by intro h; simp at h)).trans hs) (by omega) (by omega) hs0 hs1 (unhide HF) (unhide R) (unhide BY) (unhide AP) hbd⟩
  ·go_enter Tryz.func97, Tryz.ntmps97
   go_wp2_with fail
   go_quiet (fail)
   go_wp2_with fail
   go_ret
   have hO := Only.drewN (k := nq) (Only.setCell w p 1 (.int .i64 (t + 1)))
   have hO2 := hO.trans (Only.setCell _ p 2 (.int .i64 ((s * 1103515245 + 12345) % 2147483648)))
   refine ⟨_, rfl, ?_, ?_, hO2, src_step (t := t + 1) hO2 ((World.cell?_setCell_other _ _ _ _ (by intro h; simp at h)).trans ((World.cell?_setCell_other _ _ _ _ (by intro h; simp at h)).trans hc)) ((World.cell?_setCell_other _ _ _ _ (by intro h; simp at h)).trans (World.cell?_setCell_same _ _ _ ht)) (World.cell?_setCell_same _ _ _ ((World.cell?_setCell_other _ _ _ _ (by intro h; simp at h)).trans hs)) (by omega) (by omega) ?_ ?_ (unhide HF) (unhide R) (unhide BY) (unhide AP) hbd⟩
   all_goals omega
end Go.Proofs.YtdnjgbckkmbmfaaGreat

namespace Go.Proofs.YtdnjgbckkmbmfaaGreat
open Go.RowKit

theorem Src.more {w : World} {p : Nat} {a : Option Addr} {n c : Nat} {xs : List Int} {K K' : Int} (h : Src w p a n c xs K) (hk : K ≤ K') : Src w p a n c xs K' := by
 obtain ⟨h1, ⟨t, ht, ht0, htK⟩, h3, h4, h5, h6, h7, h8⟩ := h
 exact ⟨h1, ⟨t, ht, ht0, by omega⟩, h3, h4, h5, h6, h7, h8⟩

set_option maxHeartbeats 1000000 in
theorem next_any (p : Nat) (a : Option Addr) (n c : Nat) (xs : List Int) (K m : Int) (w : World) (h : Src w p a n c xs K) (hK : K ≤ 900000) (hm : 1 ≤ m) (hm2 : m ≤ 100000) :
  Calls Tryz.prog 64 #[.pointer (some ⟨p, 0, none⟩), .int .i64 m] w fun e w' => ∃ r : Int, e = .returned (.int .i64 r) ∧ 0 ≤ r ∧ r < m ∧ Only p w w' ∧ Src w' p a n c xs (K + 3) := by
 by_cases h1 : m ≤ 1
 ·go_enter Tryz.func64, Tryz.ntmps64
  go_wp2_with fail
  go_ret
  exact ⟨0, rfl, by omega, by omega, Only.refl _ _, Src.more h (by omega)⟩
 by_cases h2 : m ≤ 256
 ·go_enter Tryz.func64, Tryz.ntmps64
  go_wp2_with fail
  refine (byte_any p a n c xs K w h (by omega)).mono ?_
  rintro e w1 ⟨r, rfl, hr0, hr1, ho, hs⟩
  go_wp2_with fail
  go_ret
  refine ⟨_, rfl, ?_, ?_, ho, Src.more hs (by omega)⟩
  ·exact Int.emod_nonneg _ (by omega)
  ·exact Int.emod_lt_of_pos _ (by omega)
 ·go_enter Tryz.func64, Tryz.ntmps64
  go_wp2_with fail
  refine (byte_any p a n c xs K w h (by omega)).mono ?_
  rintro e w1 ⟨r1, rfl, hr10, hr11, ho1, hs1⟩
  go_wp2_with fail
  refine (byte_any p a n c xs (K + 1) w1 hs1 (by omega)).mono ?_
  rintro e w2 ⟨r2, rfl, hr20, hr21, ho2, hs2⟩
  go_wp2_with fail
  refine (byte_any p a n c xs (K + 1 + 1) w2 hs2 (by omega)).mono ?_
  rintro e w3 ⟨r3, rfl, hr30, hr31, ho3, hs3⟩
  go_wp2_with fail
  go_ret
  refine ⟨_, rfl, ?_, ?_, (ho1.trans ho2).trans ho3, Src.more hs3 (by omega)⟩
  ·exact Int.emod_nonneg _ (by omega)
  ·exact Int.emod_lt_of_pos _ (by omega)

set_option maxHeartbeats 1000000 in
theorem source_any (a : Option Addr) (n c : Nat) (xs : List Int) (w : World) (hr : Row w a n xs) (hby : ∀ i, i < n → 0 ≤ xs.getD i 0 ∧ xs.getD i 0 ≤ 255) (hn : n ≤ 1048576) :
  Calls Tryz.prog 29 #[.slice a n c] w fun e w' => e = .returned (.pointer (some ⟨w.heap.size, 0, none⟩)) ∧ Src w' w.heap.size a n c xs 0 ∧ Below w.heap.size w w' ∧ w'.heap.size = w.heap.size + 1 := by
 have R := hide hr
 have BY := hide hby
 clear hr hby
 go_enter Tryz.func29, Tryz.ntmps29
 go_wp2_with fail
 go_ret
 refine ⟨rfl, ?_, (Below.refl _ _).alloc (Nat.le_refl _) _, by simp⟩
 have hb : Below w.heap.size w (w.alloc (.cells #[.slice a n c, .int .i64 0, .int .i64 ((n : Int) % 1000)] 109)) := (Below.refl _ _).alloc (Nat.le_refl _) _
 have hlt : ∀ x, a = some x → 0 < n → x.block < w.heap.size := fun x hx hp => by
  obtain ⟨b, off, e, hc⟩ := (unhide R).2 0 hp
  rw [hx] at e
  cases e
  exact cell_lt hc
 refine ⟨by simp, ⟨0, by simp, by omega, by omega⟩, ⟨(n : Int) % 1000, by simp, by omega, by omega⟩, fun j => by simp, ?_, unhide BY, fun x hx hp => Nat.ne_of_lt (hlt x hx hp), hn⟩
 by_cases hp : 0 < n
 ·exact (unhide R).below hb (fun x hx => hlt x hx hp)
 ·exact ⟨(unhide R).1, fun i hi => absurd hi (by omega)⟩
set_option maxHeartbeats 1000000 in
theorem pick_any (p g m mc : Nat) (a : Option Addr) (n c : Nat) (xs : List Int) (K : Int) (w : World) (h : Src w p a n c xs K) (hK : K ≤ 800000) (hm : 1 ≤ m) (hm2 : m ≤ 1000) (hg : g ≠ p) (T : ByteArray → Prop)
  (hT : ∀ i, i < m → ∃ t, w.cell? ⟨g, i, none⟩ = some (.string t) ∧ T t) :
  Calls Tryz.prog 90 #[.pointer (some ⟨p, 0, none⟩), .slice (some ⟨g, 0, none⟩) m mc] w fun e w' => ∃ t : ByteArray, e = .returned (.string t) ∧ T t ∧ Only p w w' ∧ Src w' p a n c xs (K + 3) := by
 have HT := hide hT
 clear hT
 have hb : ((m : Int) == 0) = false := by simp; omega
 go_enter Tryz.func90, Tryz.ntmps90
 go_wp2_with fail
 refine (next_any p a n c xs K (m : Int) w h (by omega) (by omega) (by omega)).mono ?_
 rintro e w1 ⟨r, rfl, hr0, hr1, ho, hs⟩
 obtain ⟨k, rfl⟩ := Int.eq_ofNat_of_zero_le hr0
 obtain ⟨t, ht, hTt⟩ := unhide HT k (by omega)
 have ht1 := (ho.cell (p := ⟨g, k, none⟩) hg).trans ht
 clear ht
 go_wp2_with fail
 go_ret
 exact ⟨t, rfl, hTt, ho, hs⟩

theorem Src.alloc {w : World} {p : Nat} {a : Option Addr} {n c : Nat} {xs : List Int} {K : Int} (h : Src w p a n c xs K) (o : Obj) : Src (w.alloc o) p a n c xs K := by
 have hb : Below w.heap.size w (w.alloc o) := (Below.refl _ _).alloc (Nat.le_refl _) _
 obtain ⟨h1, ⟨t, ht, ht0, htK⟩, ⟨s, hs, hs0, hs1⟩, h4, h5, h6, h7, h8⟩ := h
 have hp := cell_lt h1
 refine ⟨(hb.cell (p := ⟨p, 0, none⟩) hp).trans h1, ⟨t, (hb.cell (p := ⟨p, 1, none⟩) hp).trans ht, ht0, htK⟩, ⟨s, (hb.cell (p := ⟨p, 2, none⟩) hp).trans hs, hs0, hs1⟩, fun j => (hb.frozen (p := ⟨p, j, none⟩) hp).trans (h4 j), ?_, h6, h7, h8⟩
 by_cases hn : 0 < n
 ·refine h5.below hb (fun x hx => ?_)
  obtain ⟨b, off, e, hc⟩ := h5.2 0 hn
  rw [hx] at e
  cases e
  exact cell_lt hc
 ·exact ⟨h5.1, fun i hi => absurd hi (by omega)⟩

end Go.Proofs.YtdnjgbckkmbmfaaGreat

namespace Go.Proofs.YtdnjgbckkmbmfaaGreat
open Go.RowKit

theorem Src.of_blocks' {w w' : World} {p : Nat} {a : Option Addr} {n c : Nat} {xs : List Int} {K : Int} (h : Src w p a n c xs K) (hp : w'.heap[p]? = w.heap[p]?) (ha : ∀ x, a = some x → 0 < n → w'.heap[x.block]? = w.heap[x.block]?) : Src w' p a n c xs K := by
 obtain ⟨h1, ⟨t, ht, ht0, htK⟩, ⟨s, hs, hs0, hs1⟩, h4, h5, h6, h7, h8⟩ := h
 refine ⟨(World.cell?_of_block (w := w) (a := ⟨p, 0, none⟩) hp).trans h1, ⟨t, (World.cell?_of_block (w := w) (a := ⟨p, 1, none⟩) hp).trans ht, ht0, htK⟩, ⟨s, (World.cell?_of_block (w := w) (a := ⟨p, 2, none⟩) hp).trans hs, hs0, hs1⟩, fun j => (World.frozen?_of_block (w := w) (a := ⟨p, j, none⟩) hp).trans (h4 j), ⟨h5.1, fun i hi => ?_⟩, h6, h7, h8⟩
 obtain ⟨b, off, e, hc⟩ := h5.2 i hi
 have hb : w'.heap[b]? = w.heap[b]? := ha _ e (by omega)
 exact ⟨b, off, e, (World.cell?_of_block (w := w) (a := ⟨b, off + i, none⟩) hb).trans hc⟩
theorem src_code' {w : World} {p : Nat} {a : Option Addr} {n c : Nat} {xs : List Int} {K : Int} (h : Src w p a n c xs K) : ∀ x, a = some x → 0 < n → x.block < w.heap.size := fun x hx hn => by
 obtain ⟨b, off, e, hc⟩ := h.row.2 0 hn
 rw [hx] at e
 cases e
 exact cell_lt hc
theorem Src.below {w w' : World} {p : Nat} {a : Option Addr} {n c : Nat} {xs : List Int} {K : Int} (h : Src w p a n c xs K) (hb : Below w.heap.size w w') : Src w' p a n c xs K :=
 h.of_blocks' (hb.block _ (cell_lt h.code)) (fun x hx hn => hb.block _ (src_code' h x hx hn))
end Go.Proofs.YtdnjgbckkmbmfaaGreat

namespace Go.Proofs.YtdnjgbckkmbmfaaGreat
open Go.RowKit

end Go.Proofs.YtdnjgbckkmbmfaaGreat

namespace Go.Proofs.YtdnjgbckkmbmfaaGreat
open Go.RowKit

set_option maxHeartbeats 1000000 in
theorem chanceD_any (p : Nat) (a : Option Addr) (n c : Nat) (xs : List Int) (K m : Int) (w : World) (h : Src w p a n c xs K) (hK : K ≤ 800000) (hm : 1 ≤ m) (hm2 : m ≤ 100000) :
  Calls Tryz.prog 67 #[.pointer (some ⟨p, 0, none⟩), .int .i64 m] w fun e w' => ∃ x : Bool, e = .returned (.bool x) ∧ Wrote p w w' ∧ Src w' p a n c xs (K + 3) := by
 go_enter Tryz.func67, Tryz.ntmps67
 go_wp2_with fail
 refine (next_any p a n c xs K m w h (by omega) hm hm2).mono ?_
 rintro e w1 ⟨r, rfl, hr0, hr1, ho, hs⟩
 have HO := hide ho.wrote
 have HS := hide hs
 clear ho hs
 go_wp2_with fail
 go_ret
 exact ⟨_, rfl, unhide HO, unhide HS⟩
set_option maxHeartbeats 1000000 in
theorem keyD_any (p : Nat) (a : Option Addr) (n c : Nat) (xs : List Int) (K : Int) (w : World) (h : Src w p a n c xs K) (hK : K ≤ 700000) :
  Calls Tryz.prog 89 #[.pointer (some ⟨p, 0, none⟩)] w fun e w' => ∃ t : ByteArray, e = .returned (.string t) ∧ (keyK t = true ∧ t.size = 1) ∧ Wrote p w w' ∧ Src w' p a n c xs (K + 3) := by
 have hp := cell_lt h.code
 go_enter Tryz.func89, Tryz.ntmps89
 go_wp2_with fail
 refine (pick_any p w.heap.size 10 10 a n c xs K _ (h.alloc _) (by omega) (by omega) (by omega) (by omega) (fun t => keyK t = true ∧ t.size = 1) (fun i hi => ?_)).mono ?_
 ·match i, hi with
  | 0, _ => exact ⟨_, by simp; rfl, by decide, rfl⟩
  | 1, _ => exact ⟨_, by simp; rfl, by decide, rfl⟩
  | 2, _ => exact ⟨_, by simp; rfl, by decide, rfl⟩
  | 3, _ => exact ⟨_, by simp; rfl, by decide, rfl⟩
  | 4, _ => exact ⟨_, by simp; rfl, by decide, rfl⟩
  | 5, _ => exact ⟨_, by simp; rfl, by decide, rfl⟩
  | 6, _ => exact ⟨_, by simp; rfl, by decide, rfl⟩
  | 7, _ => exact ⟨_, by simp; rfl, by decide, rfl⟩
  | 8, _ => exact ⟨_, by simp; rfl, by decide, rfl⟩
  | 9, _ => exact ⟨_, by simp; rfl, by decide, rfl⟩
 ·rintro e w1 ⟨t, rfl, ht, ho, hs⟩
  have hb : Wrote p w w1 := (Wrote.alloc w p _).trans ho.wrote
  clear ho
  go_wp2_with fail
  go_ret
  exact ⟨t, rfl, ht, hb, hs⟩
set_option maxHeartbeats 1000000 in
theorem valueD_any (p : Nat) (a : Option Addr) (n c : Nat) (xs : List Int) (K : Int) (w : World) (h : Src w p a n c xs K) (hK : K ≤ 700000) :
  Calls Tryz.prog 98 #[.pointer (some ⟨p, 0, none⟩)] w fun e w' => ∃ t : ByteArray, e = .returned (.string t) ∧ valK t = true ∧ Wrote p w w' ∧ Src w' p a n c xs (K + 3) := by
 have hp := cell_lt h.code
 go_enter Tryz.func98, Tryz.ntmps98
 go_wp2_with fail
 refine (pick_any p w.heap.size 4 4 a n c xs K _ (h.alloc _) (by omega) (by omega) (by omega) (by omega) (fun t => valK t = true) (fun i hi => ?_)).mono ?_
 ·match i, hi with
  | 0, _ => exact ⟨_, by simp; rfl, by decide⟩
  | 1, _ => exact ⟨_, by simp; rfl, by decide⟩
  | 2, _ => exact ⟨_, by simp; rfl, by decide⟩
  | 3, _ => exact ⟨_, by simp; rfl, by decide⟩
 ·rintro e w1 ⟨t, rfl, ht, ho, hs⟩
  have hb : Wrote p w w1 := (Wrote.alloc w p _).trans ho.wrote
  clear ho
  go_wp2_with fail
  go_ret
  exact ⟨t, rfl, ht, hb, hs⟩
set_option maxHeartbeats 1000000 in
theorem longKeyD_any (p : Nat) (a : Option Addr) (n c : Nat) (xs : List Int) (K : Int) (w : World) (h : Src w p a n c xs K) (hK : K ≤ 600000) :
  Calls Tryz.prog 45 #[.pointer (some ⟨p, 0, none⟩)] w fun e w' => ∃ t : ByteArray, e = .returned (.string t) ∧ keyK t = true ∧ Wrote p w w' ∧ Src w' p a n c xs (K + 6) := by
 go_enter Tryz.func45, Tryz.ntmps45
 go_wp2_with fail
 refine (keyD_any p a n c xs K w h (by omega)).mono ?_
 rintro e w1 ⟨t, rfl, ht, hw1, hs1⟩
 have hp := cell_lt hs1.code
 have T1 := hide ht.2
 have W1 := hide hw1
 have S1 := hide hs1
 clear ht hw1 hs1
 go_wp2_with fail
 refine (pick_any p w1.heap.size 6 6 a n c xs (K + 3) _ ((unhide S1).alloc _) (by omega) (by omega) (by omega) (by omega) (fun t => t.size ≤ 1) (fun i hi => ?_)).mono ?_
 ·match i, hi with
  | 0, _ => exact ⟨_, by simp; rfl, by decide⟩
  | 1, _ => exact ⟨_, by simp; rfl, by decide⟩
  | 2, _ => exact ⟨_, by simp; rfl, by decide⟩
  | 3, _ => exact ⟨_, by simp; rfl, by decide⟩
  | 4, _ => exact ⟨_, by simp; rfl, by decide⟩
  | 5, _ => exact ⟨_, by simp; rfl, by decide⟩
 ·rintro e w2 ⟨u, rfl, hu, ho, hs⟩
  have hb : Wrote p w w2 := (unhide W1).trans ((Wrote.alloc w1 p _).trans ho.wrote)
  have HU := hide hu
  have HB := hide hb
  have HS := hide (hs.more (K' := K + 6) (by omega))
  have hcat : ∀ w', (Op.stringOp .add t u).run Tryz.prog w' = .ok (.string (t ++ u)) w' := fun w' => run_string_add_sum w' t u (by have := unhide T1; omega)
  clear ho hb hu hs
  go_wp2_with fail
  go_ret
  exact ⟨_, rfl, by have h1 := unhide T1; have h2 := unhide HU; unfold keyK; simp [h1]; omega, unhide HB, unhide HS⟩
theorem Src.set {w : World} {p b : Nat} {a : Option Addr} {n c : Nat} {xs : List Int} {K : Int} (h : Src w p a n c xs K) (hb : p ≠ b) (ha : ∀ x, a = some x → 0 < n → x.block ≠ b) (j : Nat) (v : Value) : Src (w.setCell ⟨b, j, none⟩ v) p a n c xs K :=
 h.of_blocks' (Below.heap_setCell _ _ _ _ hb) (fun x hx hn => Below.heap_setCell _ _ _ _ (ha x hx hn))
end Go.Proofs.YtdnjgbckkmbmfaaGreat

namespace Go.Proofs.YtdnjgbckkmbmfaaGreat
open Go.RowKit

end Go.Proofs.YtdnjgbckkmbmfaaGreat

namespace Go.Proofs.YtdnjgbckkmbmfaaGreat
open Go.RowKit

theorem size_draw (p : Nat) (a : Option Addr) (n c : Nat) (xs : List Int) (K : Int) (m : Nat) (w : World) (h : Src w p a n c xs K) :
  Calls Tryz.prog 65 #[.pointer (some ⟨p, 0, none⟩), .int .i64 (m : Int)] w fun e w' => ∃ r : Nat, e = .returned (.int .i64 (r : Int)) ∧ r ≤ m ∧ w' = w := by
 have c0 := h.code
 have hb := h.bound
 have hq : Int.tdiv (n : Int) 12 = ((n / 12 : Nat) : Int) := by rw [Int.tdiv_eq_ediv_of_nonneg (by omega)]; omega
 have wr : IntKind.i64.wrap (1 + ((n / 12 : Nat) : Int)) = ((1 + n / 12 : Nat) : Int) := by rw [IntKind.wrap_i64]; omega
 clear h
 go_enter Tryz.func65, Tryz.ntmps65
 go_wp2_with fail
 all_goals go_ret
 all_goals first | exact ⟨m, rfl, by omega, rfl⟩ | exact ⟨1 + n / 12, by simp, by omega, rfl⟩ | exact ⟨min (1 + n / 12) m, by rw [show min (1 + (n : Int) / 12) (m : Int) = ((min (1 + n / 12) m : Nat) : Int) by omega]; rfl, by omega, rfl⟩
end Go.Proofs.YtdnjgbckkmbmfaaGreat

namespace Go.Proofs.YtdnjgbckkmbmfaaGreat
open Go.RowKit

theorem src_below {w w1 w2 : World} (h1 : Below w.heap.size w w1) (hw : Wrote w.heap.size w1 w2) : Below w.heap.size w w2 := h1.trans (hw.below (Nat.le_refl _) h1.size)
set_option maxHeartbeats 1000000 in
theorem keyOfD_any (a : Option Addr) (n c : Nat) (xs : List Int) (w : World) (hr : Row w a n xs) (hby : ∀ i, i < n → 0 ≤ xs.getD i 0 ∧ xs.getD i 0 ≤ 255) (hn : n ≤ 1048576) :
  Calls Tryz.prog 16 #[.slice a n c] w fun e w' => ∃ t : ByteArray, e = .returned (.string t) ∧ keyK t = true ∧ Below w.heap.size w w' := by
 have R := hide hr
 have BY := hide hby
 clear hr hby
 go_enter Tryz.func16, Tryz.ntmps16
 go_wp2_with fail
 refine (source_any a n c xs w (unhide R) (unhide BY) hn).mono ?_
 rintro e w1 ⟨rfl, hs1, hb1, hz1⟩
 go_wp2_with fail
 refine (longKeyD_any w.heap.size a n c xs 0 w1 hs1 (by omega)).mono ?_
 rintro e w2 ⟨t, rfl, hk, hw, _⟩
 have bA := hide (src_below hb1 hw)
 clear hb1 hw hs1 hz1
 go_wp2_with fail
 go_ret
 exact ⟨t, rfl, hk, unhide bA⟩
end Go.Proofs.YtdnjgbckkmbmfaaGreat
