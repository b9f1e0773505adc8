/-
  FnLate is proved: for every two codes of bytes the law answers true; no condition beyond the row's own.
-/
import Derived.Test.YtdnjgbckkmbmfaaGreatLsAll7
import Derived.Deep.Cut
import Derived.ProofKit
import Derived.OpenShut
import Derived.ShutString
import Derived.ChangeOld
import Derived.Below
set_option maxRecDepth 100000
namespace Go.Proofs.YtdnjgbckkmbmfaaGreat
open Go.RowKit

structure XdSt (w u : World) (p : Nat) (a : Option Addr) (n c : Nat) (xs : List Int) (K : Int) (b : Nat) (d : TxD) : Prop where
 src : Src u p a n c xs K
 wro : Wrote p w u
 res : u.heap[w.heap.size]? = some (.cells #[.int .i64 0, .int .i64 0, .string ⟨#[]⟩, .string ⟨#[]⟩, .string ⟨#[]⟩] 37 (0, 0))
 box : u.heap[b]? = some (.cells #[.int .i64 d.kind, .int .i64 d.ses, .string d.key, .string d.to, .string d.val] 37 (0, 0))
 bge : w.heap.size < b
 hp : p < w.heap.size
 hc : ∀ x, a = some x → 0 < n → x.block < w.heap.size
theorem XdSt.wrote {w u : World} {p : Nat} {a : Option Addr} {n c : Nat} {xs : List Int} {K : Int} {b : Nat} {d : TxD} {u' : World} {K' : Int} (h : XdSt w u p a n c xs K b d) (hs : Src u' p a n c xs K') (hw : Wrote p u u') : XdSt w u' p a n c xs K' b d :=
 ⟨hs, h.wro.trans hw, (hw.block _ (by have := h.hp; omega) (blk_lt h.res)).trans h.res, (hw.block _ (by have := h.hp; have := h.bge; omega) (blk_lt h.box)).trans h.box, h.bge, h.hp, h.hc⟩
theorem XdSt.alloc {w u : World} {p : Nat} {a : Option Addr} {n c : Nat} {xs : List Int} {K : Int} {b : Nat} {d : TxD} (h : XdSt w u p a n c xs K b d) (o : Obj) : XdSt w (u.alloc o) p a n c xs K b d := h.wrote (h.src.alloc o) (Wrote.alloc u p o)
theorem XdSt.set {w u : World} {p : Nat} {a : Option Addr} {n c : Nat} {xs : List Int} {K : Int} {b : Nat} {d : TxD} (h : XdSt w u p a n c xs K b d) (v0 v1 : Int) (v2 v3 v4 : ByteArray) : XdSt w (((((u.setCell ⟨b, 0, none⟩ (.int .i64 v0)).setCell ⟨b, 1, none⟩ (.int .i64 v1)).setCell ⟨b, 2, none⟩ (.string v2)).setCell ⟨b, 3, none⟩ (.string v3)).setCell ⟨b, 4, none⟩ (.string v4)) p a n c xs K b ⟨v0, v1, v2, v3, v4⟩ := by
 have h1 : p ≠ b := by have := h.hp; have := h.bge; omega
 have h2 : ∀ x, a = some x → 0 < n → x.block ≠ b := fun x hx hn => by have := h.hc x hx hn; have := h.bge; omega
 have hw : ∀ (u : World) (j : Nat) (v : Value), Wrote p w u → Wrote p w (u.setCell ⟨b, j, none⟩ v) := fun u j v hu => ⟨hu.os, hu.tape, hu.output, by have := hu.size; simp only [World.setCell] at *; simpa using this, fun k hk hl => (Below.heap_setCell u ⟨b, j, none⟩ v k (by show k ≠ b; have := h.bge; omega)).trans (hu.block k hk hl)⟩
 have hr : ∀ (u : World) (j : Nat) (v : Value) (o : Option Obj), u.heap[w.heap.size]? = o → (u.setCell ⟨b, j, none⟩ v).heap[w.heap.size]? = o := fun u j v o hu => (Below.heap_setCell u ⟨b, j, none⟩ v w.heap.size (by show w.heap.size ≠ b; have := h.bge; omega)).trans hu
 refine ⟨((((h.src.set h1 h2 0 _).set h1 h2 1 _).set h1 h2 2 _).set h1 h2 3 _).set h1 h2 4 _, hw _ _ _ (hw _ _ _ (hw _ _ _ (hw _ _ _ (hw _ _ _ h.wro)))), hr _ _ _ _ (hr _ _ _ _ (hr _ _ _ _ (hr _ _ _ _ (hr _ _ _ _ h.res)))), ?_, h.bge, h.hp, h.hc⟩
 have k0 := heap_set h.box 0 (.int .i64 v0)
 have k1 := heap_set k0 1 (.int .i64 v1)
 have k2 := heap_set k1 2 (.string v2)
 have k3 := heap_set k2 3 (.string v3)
 have k4 := heap_set k3 4 (.string v4)
 simpa using k4
theorem XdSt.kind {w u : World} {p : Nat} {a : Option Addr} {n c : Nat} {xs : List Int} {K : Int} {b : Nat} {d : TxD} (h : XdSt w u p a n c xs K b d) (v : Int) : XdSt w (u.setCell ⟨b, 0, none⟩ (.int .i64 v)) p a n c xs K b ⟨v, d.ses, d.key, d.to, d.val⟩ := by
 have h1 : p ≠ b := by have := h.hp; have := h.bge; omega
 have h2 : ∀ x, a = some x → 0 < n → x.block ≠ b := fun x hx hn => by have := h.hc x hx hn; have := h.bge; omega
 refine ⟨h.src.set h1 h2 0 _, ⟨h.wro.os, h.wro.tape, h.wro.output, by have := h.wro.size; simp only [World.setCell] at *; simpa using this, fun k hk hl => (Below.heap_setCell u ⟨b, 0, none⟩ _ k (by show k ≠ b; have := h.bge; omega)).trans (h.wro.block k hk hl)⟩, (Below.heap_setCell u ⟨b, 0, none⟩ _ w.heap.size (by show w.heap.size ≠ b; have := h.bge; omega)).trans h.res, ?_, h.bge, h.hp, h.hc⟩
 have k0 := heap_set h.box 0 (.int .i64 v)
 simpa using k0
theorem XdSt.val {w u : World} {p : Nat} {a : Option Addr} {n c : Nat} {xs : List Int} {K : Int} {b : Nat} {d : TxD} (h : XdSt w u p a n c xs K b d) (v : ByteArray) : XdSt w (u.setCell ⟨b, 4, none⟩ (.string v)) p a n c xs K b ⟨d.kind, d.ses, d.key, d.to, v⟩ := by
 have h1 : p ≠ b := by have := h.hp; have := h.bge; omega
 have h2 : ∀ x, a = some x → 0 < n → x.block ≠ b := fun x hx hn => by have := h.hc x hx hn; have := h.bge; omega
 refine ⟨h.src.set h1 h2 4 _, ⟨h.wro.os, h.wro.tape, h.wro.output, by have := h.wro.size; simp only [World.setCell] at *; simpa using this, fun k hk hl => (Below.heap_setCell u ⟨b, 4, none⟩ _ k (by show k ≠ b; have := h.bge; omega)).trans (h.wro.block k hk hl)⟩, (Below.heap_setCell u ⟨b, 4, none⟩ _ w.heap.size (by show w.heap.size ≠ b; have := h.bge; omega)).trans h.res, ?_, h.bge, h.hp, h.hc⟩
 have k0 := heap_set h.box 4 (.string v)
 simpa using k0
theorem XdSt.fin {w u : World} {p : Nat} {a : Option Addr} {n c : Nat} {xs : List Int} {K : Int} {b : Nat} {d : TxD} (h : XdSt w u p a n c xs K b d) (v0 v1 v2 v3 v4 : Value) : Wrote p w (((((u.setCell ⟨w.heap.size, 0, none⟩ v0).setCell ⟨w.heap.size, 1, none⟩ v1).setCell ⟨w.heap.size, 2, none⟩ v2).setCell ⟨w.heap.size, 3, none⟩ v3).setCell ⟨w.heap.size, 4, none⟩ v4) ∧ Src (((((u.setCell ⟨w.heap.size, 0, none⟩ v0).setCell ⟨w.heap.size, 1, none⟩ v1).setCell ⟨w.heap.size, 2, none⟩ v2).setCell ⟨w.heap.size, 3, none⟩ v3).setCell ⟨w.heap.size, 4, none⟩ v4) p a n c xs K := by
 have h1 : p ≠ w.heap.size := by have := h.hp; omega
 have h2 : ∀ x, a = some x → 0 < n → x.block ≠ w.heap.size := fun x hx hn => by have := h.hc x hx hn; omega
 have hw : ∀ (u : World) (j : Nat) (v : Value), Wrote p w u → Wrote p w (u.setCell ⟨w.heap.size, j, none⟩ v) := fun u j v hu => ⟨hu.os, hu.tape, hu.output, by have := hu.size; simp only [World.setCell] at *; simpa using this, fun k hk hl => (Below.heap_setCell u ⟨w.heap.size, j, none⟩ v k (by show k ≠ w.heap.size; omega)).trans (hu.block k hk hl)⟩
 exact ⟨hw _ _ _ (hw _ _ _ (hw _ _ _ (hw _ _ _ (hw _ _ _ h.wro)))), ((((h.src.set h1 h2 0 _).set h1 h2 1 _).set h1 h2 2 _).set h1 h2 3 _).set h1 h2 4 _⟩
theorem str_lit {W : World} {t : TypeId} {cs : Array Value} {m : Nat} (hm : cs.size = m) (hs : ∀ i (h : i < cs.size), ∃ s, cs[i] = .string s) : ∀ i, i < m → ∃ s, (W.alloc (.cells cs t)).cell? ⟨W.heap.size, i, none⟩ = some (.string s) ∧ True := fun i hi => by
 obtain ⟨s, e⟩ := hs i (by omega)
 exact ⟨s, rb_cell_new rfl (by rw [Array.getElem?_eq_getElem (by omega), e]), trivial⟩
theorem five_str {x0 x1 x2 x3 : ByteArray} : ∀ i (h : i < (#[Value.string x0, .string x1, .string x2, .string x3] : Array Value).size), ∃ s, (#[Value.string x0, .string x1, .string x2, .string x3] : Array Value)[i] = .string s := by
 intro i h
 match i, h with
 | 0, _ => exact ⟨_, rfl⟩
 | 1, _ => exact ⟨_, rfl⟩
 | 2, _ => exact ⟨_, rfl⟩
 | 3, _ => exact ⟨_, rfl⟩
theorem three_str {x0 x1 x2 : ByteArray} : ∀ i (h : i < (#[Value.string x0, .string x1, .string x2] : Array Value).size), ∃ s, (#[Value.string x0, .string x1, .string x2] : Array Value)[i] = .string s := by
 intro i h
 match i, h with
 | 0, _ => exact ⟨_, rfl⟩
 | 1, _ => exact ⟨_, rfl⟩
 | 2, _ => exact ⟨_, rfl⟩
theorem xd_cell {w u : World} {p : Nat} {a : Option Addr} {n c : Nat} {xs : List Int} {K : Int} {b : Nat} {d : TxD} (h : XdSt w u p a n c xs K b d) : u.cell? ⟨b, 1, none⟩ = some (.int .i64 d.ses) := (heap_at h.box 1).1
theorem lit_of {u : World} {g : Nat} {t : TypeId} {x0 x1 x2 : Value} (h : u.heap[g]? = some (.cells #[x0, x1, x2] t (0, 0))) (hs : ∀ i (h : i < (#[x0, x1, x2] : Array Value).size), ∃ s, (#[x0, x1, x2] : Array Value)[i] = .string s) : ∀ i, i < 3 → ∃ s, u.cell? ⟨g, i, none⟩ = some (.string s) ∧ True := fun i hi => by
 obtain ⟨s, e⟩ := hs i hi
 exact ⟨s, by rw [(heap_at h i).1, Array.getElem?_eq_getElem hi, e], trivial⟩
set_option maxHeartbeats 8000000 in
theorem txActD_any (p : Nat) (a : Option Addr) (n c : Nat) (xs : List Int) (Kq : Int) (w : World) (h : Src w p a n c xs Kq) (hKq : Kq ≤ 500000) :
  Calls Tryz.prog 66 #[.pointer (some ⟨p, 0, none⟩)] w fun e w' => ∃ d : TxD, e = .returned (xv d) ∧ (0 ≤ d.ses ∧ d.ses ≤ 2) ∧ Wrote p w w' ∧ Src w' p a n c xs (Kq + 18) := by
 have hp := cell_lt h.code
 have ha := src_code' h
 have S := hide (h.alloc (.cells #[.int .i64 0, .int .i64 0, .string ⟨#[]⟩, .string ⟨#[]⟩, .string ⟨#[]⟩] 37))
 have WW := hide (Wrote.alloc w p (.cells #[.int .i64 0, .int .i64 0, .string ⟨#[]⟩, .string ⟨#[]⟩, .string ⟨#[]⟩] 37))
 have kz := heap_alloc_new w (.cells #[.int .i64 0, .int .i64 0, .string ⟨#[]⟩, .string ⟨#[]⟩, .string ⟨#[]⟩] 37)
 have HA := hide ha
 clear h ha
 go_enter Tryz.func66, Tryz.ntmps66
 go_wp2_with fail
 generalize w.alloc (.cells #[.int .i64 0, .int .i64 0, .string ⟨#[]⟩, .string ⟨#[]⟩, .string ⟨#[]⟩] 37) = W0 at *
 refine (next_any p a n c xs Kq 3 W0 (unhide S) (by omega) (by omega) (by omega)).mono ?_
 rintro e w1 ⟨r, rfl, hr0, hr1, ho, hs⟩
 have hw1 := ho.wrote
 have kz1 := (hw1.block w.heap.size (by omega) (blk_lt kz)).trans kz
 have WW1 := hide ((unhide WW).trans hw1)
 have S1 := hide hs
 clear ho hs S WW kz hw1
 go_wp2_with fail
 have ST := hide (str_lit (W := w1) (t := 9) (cs := #[.string ⟨#[97]⟩, .string ⟨#[98]⟩, .string ⟨#[99]⟩, .string ⟨#[100]⟩]) (m := 4) rfl five_str)
 refine (pick_any p w1.heap.size 4 4 a n c xs (Kq + 3) _ ((unhide S1).alloc _) (by omega) (by omega) (by omega) (by have := cell_lt (unhide S1).code; show w1.heap.size ≠ p; simp only at this; omega) (fun _ => True) (unhide ST)).mono ?_
 rintro e w2 ⟨key, rfl, -, ho, hs⟩
 have hw2 := (Wrote.alloc w1 p (.cells #[.string ⟨#[97]⟩, .string ⟨#[98]⟩, .string ⟨#[99]⟩, .string ⟨#[100]⟩] 9)).trans ho.wrote
 have kz2 := (hw2.block w.heap.size (by omega) (blk_lt kz1)).trans kz1
 have WW2 := (unhide WW1).trans hw2
 have X0 := hide (show XdSt w (w2.alloc (.cells #[.int .i64 2, .int .i64 r, .string key, .string ⟨#[]⟩, .string ⟨#[]⟩] 37)) p a n c xs (Kq + 6) w2.heap.size ⟨2, r, key, ⟨#[]⟩, ⟨#[]⟩⟩ from
  ⟨(show Src w2 p a n c xs (Kq + 6) from hs.more (by omega)).alloc _, WW2.trans (Wrote.alloc w2 p _), (((Below.refl w2.heap.size w2).alloc (Nat.le_refl _) _).block w.heap.size (blk_lt kz2)).trans kz2, heap_alloc_new _ _, blk_lt kz2, hp, unhide HA⟩)
 clear ho hs hw2 kz2 WW2 kz1 WW1 S1 ST
 go_upto_region 2 with fail
 generalize w2.alloc (.cells #[.int .i64 2, .int .i64 r, .string key, .string ⟨#[]⟩, .string ⟨#[]⟩] 37) = w3 at *
 generalize w2.heap.size = b at *
 go_wp2_with fail
 refine (next_any p a n c xs (Kq + 6) 10 w3 (unhide X0).src (by omega) (by omega) (by omega)).mono ?_
 rintro e w4 ⟨q, rfl, hq0, hq1, ho, hs⟩
 have X1 := hide ((unhide X0).wrote (hs.more (show Kq + 6 + 3 ≤ Kq + 9 by omega)) ho.wrote)
 clear ho hs X0
 have RR := hide (show 0 ≤ r ∧ r ≤ 2 by omega)
 clear hr0 hr1
 by_cases h0 : q = 0
 ·subst h0
  have kb := (unhide X1).box
  have X2 := hide (show XdSt w (((((w4.setCell ⟨b, 0, none⟩ (.int .i64 1)).setCell ⟨b, 1, none⟩ (.int .i64 r)).setCell ⟨b, 2, none⟩ (.string ⟨#[]⟩)).setCell ⟨b, 3, none⟩ (.string ⟨#[]⟩)).setCell ⟨b, 4, none⟩ (.string ⟨#[]⟩)) p a n c xs _ b ⟨1, r, ⟨#[]⟩, ⟨#[]⟩, ⟨#[]⟩⟩ from (unhide X1).set 1 r ⟨#[]⟩ ⟨#[]⟩ ⟨#[]⟩)
  have k0 := (heap_at kb 0).1
  have kf0 := (heap_at kb 0).2
  have k1 := (heap_at kb 1).1
  have kf1 := (heap_at kb 1).2
  have k2 := (heap_at kb 2).1
  have kf2 := (heap_at kb 2).2
  have k3 := (heap_at kb 3).1
  have kf3 := (heap_at kb 3).2
  have k4 := (heap_at kb 4).1
  have kf4 := (heap_at kb 4).2
  clear kb
  go_upto_region 20 with fail
  clear k0 kf0 k1 kf1 k2 kf2 k3 kf3 k4 kf4
  generalize (((((w4.setCell ⟨b, 0, none⟩ (.int .i64 1)).setCell ⟨b, 1, none⟩ (.int .i64 r)).setCell ⟨b, 2, none⟩ (.string ⟨#[]⟩)).setCell ⟨b, 3, none⟩ (.string ⟨#[]⟩)).setCell ⟨b, 4, none⟩ (.string ⟨#[]⟩)) = w5 at *
  have kb := (unhide X2).box
  have kr := (unhide X2).res
  have FE := hide (((unhide X2).fin (.int .i64 1) (.int .i64 r) (.string ⟨#[]⟩) (.string ⟨#[]⟩) (.string ⟨#[]⟩)))
  have SF := hide ((unhide FE).2.more (show _ ≤ Kq + 18 by omega))
  have k0 := (heap_at kb 0).1
  have k1 := (heap_at kb 1).1
  have k2 := (heap_at kb 2).1
  have k3 := (heap_at kb 3).1
  have k4 := (heap_at kb 4).1
  have z0 := (heap_at kr 0).1
  have zf0 := (heap_at kr 0).2
  have z1 := (heap_at kr 1).1
  have zf1 := (heap_at kr 1).2
  have z2 := (heap_at kr 2).1
  have zf2 := (heap_at kr 2).2
  have z3 := (heap_at kr 3).1
  have zf3 := (heap_at kr 3).2
  have z4 := (heap_at kr 4).1
  have zf4 := (heap_at kr 4).2
  clear kb kr
  go_wp2_with fail
  refine bodyPost_ret (v := xv ⟨1, r, ⟨#[]⟩, ⟨#[]⟩, ⟨#[]⟩⟩) (by simp [results, Tryz.results66, go_sem, xv, *] <;> rfl) rfl ?_
  exact ⟨⟨1, r, ⟨#[]⟩, ⟨#[]⟩, ⟨#[]⟩⟩, rfl, unhide RR, (unhide FE).1, unhide SF⟩
 by_cases h1 : q = 1
 ·subst h1
  have kb := (unhide X1).box
  have X2 := hide (show XdSt w (((((w4.setCell ⟨b, 0, none⟩ (.int .i64 1)).setCell ⟨b, 1, none⟩ (.int .i64 r)).setCell ⟨b, 2, none⟩ (.string ⟨#[]⟩)).setCell ⟨b, 3, none⟩ (.string ⟨#[]⟩)).setCell ⟨b, 4, none⟩ (.string ⟨#[]⟩)) p a n c xs _ b ⟨1, r, ⟨#[]⟩, ⟨#[]⟩, ⟨#[]⟩⟩ from (unhide X1).set 1 r ⟨#[]⟩ ⟨#[]⟩ ⟨#[]⟩)
  have k0 := (heap_at kb 0).1
  have kf0 := (heap_at kb 0).2
  have k1 := (heap_at kb 1).1
  have kf1 := (heap_at kb 1).2
  have k2 := (heap_at kb 2).1
  have kf2 := (heap_at kb 2).2
  have k3 := (heap_at kb 3).1
  have kf3 := (heap_at kb 3).2
  have k4 := (heap_at kb 4).1
  have kf4 := (heap_at kb 4).2
  clear kb
  go_upto_region 20 with fail
  clear k0 kf0 k1 kf1 k2 kf2 k3 kf3 k4 kf4
  generalize (((((w4.setCell ⟨b, 0, none⟩ (.int .i64 1)).setCell ⟨b, 1, none⟩ (.int .i64 r)).setCell ⟨b, 2, none⟩ (.string ⟨#[]⟩)).setCell ⟨b, 3, none⟩ (.string ⟨#[]⟩)).setCell ⟨b, 4, none⟩ (.string ⟨#[]⟩)) = w5 at *
  have kb := (unhide X2).box
  have kr := (unhide X2).res
  have FE := hide (((unhide X2).fin (.int .i64 1) (.int .i64 r) (.string ⟨#[]⟩) (.string ⟨#[]⟩) (.string ⟨#[]⟩)))
  have SF := hide ((unhide FE).2.more (show _ ≤ Kq + 18 by omega))
  have k0 := (heap_at kb 0).1
  have k1 := (heap_at kb 1).1
  have k2 := (heap_at kb 2).1
  have k3 := (heap_at kb 3).1
  have k4 := (heap_at kb 4).1
  have z0 := (heap_at kr 0).1
  have zf0 := (heap_at kr 0).2
  have z1 := (heap_at kr 1).1
  have zf1 := (heap_at kr 1).2
  have z2 := (heap_at kr 2).1
  have zf2 := (heap_at kr 2).2
  have z3 := (heap_at kr 3).1
  have zf3 := (heap_at kr 3).2
  have z4 := (heap_at kr 4).1
  have zf4 := (heap_at kr 4).2
  clear kb kr
  go_wp2_with fail
  refine bodyPost_ret (v := xv ⟨1, r, ⟨#[]⟩, ⟨#[]⟩, ⟨#[]⟩⟩) (by simp [results, Tryz.results66, go_sem, xv, *] <;> rfl) rfl ?_
  exact ⟨⟨1, r, ⟨#[]⟩, ⟨#[]⟩, ⟨#[]⟩⟩, rfl, unhide RR, (unhide FE).1, unhide SF⟩
 by_cases h2 : q = 2
 ·subst h2
  have kb := (unhide X1).box
  have X2 := hide (show XdSt w (((((w4.setCell ⟨b, 0, none⟩ (.int .i64 6)).setCell ⟨b, 1, none⟩ (.int .i64 r)).setCell ⟨b, 2, none⟩ (.string ⟨#[]⟩)).setCell ⟨b, 3, none⟩ (.string ⟨#[]⟩)).setCell ⟨b, 4, none⟩ (.string ⟨#[]⟩)) p a n c xs _ b ⟨6, r, ⟨#[]⟩, ⟨#[]⟩, ⟨#[]⟩⟩ from (unhide X1).set 6 r ⟨#[]⟩ ⟨#[]⟩ ⟨#[]⟩)
  have k0 := (heap_at kb 0).1
  have kf0 := (heap_at kb 0).2
  have k1 := (heap_at kb 1).1
  have kf1 := (heap_at kb 1).2
  have k2 := (heap_at kb 2).1
  have kf2 := (heap_at kb 2).2
  have k3 := (heap_at kb 3).1
  have kf3 := (heap_at kb 3).2
  have k4 := (heap_at kb 4).1
  have kf4 := (heap_at kb 4).2
  clear kb
  go_upto_region 20 with fail
  clear k0 kf0 k1 kf1 k2 kf2 k3 kf3 k4 kf4
  generalize (((((w4.setCell ⟨b, 0, none⟩ (.int .i64 6)).setCell ⟨b, 1, none⟩ (.int .i64 r)).setCell ⟨b, 2, none⟩ (.string ⟨#[]⟩)).setCell ⟨b, 3, none⟩ (.string ⟨#[]⟩)).setCell ⟨b, 4, none⟩ (.string ⟨#[]⟩)) = w5 at *
  have kb := (unhide X2).box
  have kr := (unhide X2).res
  have FE := hide (((unhide X2).fin (.int .i64 6) (.int .i64 r) (.string ⟨#[]⟩) (.string ⟨#[]⟩) (.string ⟨#[]⟩)))
  have SF := hide ((unhide FE).2.more (show _ ≤ Kq + 18 by omega))
  have k0 := (heap_at kb 0).1
  have k1 := (heap_at kb 1).1
  have k2 := (heap_at kb 2).1
  have k3 := (heap_at kb 3).1
  have k4 := (heap_at kb 4).1
  have z0 := (heap_at kr 0).1
  have zf0 := (heap_at kr 0).2
  have z1 := (heap_at kr 1).1
  have zf1 := (heap_at kr 1).2
  have z2 := (heap_at kr 2).1
  have zf2 := (heap_at kr 2).2
  have z3 := (heap_at kr 3).1
  have zf3 := (heap_at kr 3).2
  have z4 := (heap_at kr 4).1
  have zf4 := (heap_at kr 4).2
  clear kb kr
  go_wp2_with fail
  refine bodyPost_ret (v := xv ⟨6, r, ⟨#[]⟩, ⟨#[]⟩, ⟨#[]⟩⟩) (by simp [results, Tryz.results66, go_sem, xv, *] <;> rfl) rfl ?_
  exact ⟨⟨6, r, ⟨#[]⟩, ⟨#[]⟩, ⟨#[]⟩⟩, rfl, unhide RR, (unhide FE).1, unhide SF⟩
 by_cases h3 : q = 3
 ·subst h3
  have kb := (unhide X1).box
  have X2 := hide (show XdSt w (((((w4.setCell ⟨b, 0, none⟩ (.int .i64 6)).setCell ⟨b, 1, none⟩ (.int .i64 r)).setCell ⟨b, 2, none⟩ (.string ⟨#[]⟩)).setCell ⟨b, 3, none⟩ (.string ⟨#[]⟩)).setCell ⟨b, 4, none⟩ (.string ⟨#[]⟩)) p a n c xs _ b ⟨6, r, ⟨#[]⟩, ⟨#[]⟩, ⟨#[]⟩⟩ from (unhide X1).set 6 r ⟨#[]⟩ ⟨#[]⟩ ⟨#[]⟩)
  have k0 := (heap_at kb 0).1
  have kf0 := (heap_at kb 0).2
  have k1 := (heap_at kb 1).1
  have kf1 := (heap_at kb 1).2
  have k2 := (heap_at kb 2).1
  have kf2 := (heap_at kb 2).2
  have k3 := (heap_at kb 3).1
  have kf3 := (heap_at kb 3).2
  have k4 := (heap_at kb 4).1
  have kf4 := (heap_at kb 4).2
  clear kb
  go_upto_region 20 with fail
  clear k0 kf0 k1 kf1 k2 kf2 k3 kf3 k4 kf4
  generalize (((((w4.setCell ⟨b, 0, none⟩ (.int .i64 6)).setCell ⟨b, 1, none⟩ (.int .i64 r)).setCell ⟨b, 2, none⟩ (.string ⟨#[]⟩)).setCell ⟨b, 3, none⟩ (.string ⟨#[]⟩)).setCell ⟨b, 4, none⟩ (.string ⟨#[]⟩)) = w5 at *
  have kb := (unhide X2).box
  have kr := (unhide X2).res
  have FE := hide (((unhide X2).fin (.int .i64 6) (.int .i64 r) (.string ⟨#[]⟩) (.string ⟨#[]⟩) (.string ⟨#[]⟩)))
  have SF := hide ((unhide FE).2.more (show _ ≤ Kq + 18 by omega))
  have k0 := (heap_at kb 0).1
  have k1 := (heap_at kb 1).1
  have k2 := (heap_at kb 2).1
  have k3 := (heap_at kb 3).1
  have k4 := (heap_at kb 4).1
  have z0 := (heap_at kr 0).1
  have zf0 := (heap_at kr 0).2
  have z1 := (heap_at kr 1).1
  have zf1 := (heap_at kr 1).2
  have z2 := (heap_at kr 2).1
  have zf2 := (heap_at kr 2).2
  have z3 := (heap_at kr 3).1
  have zf3 := (heap_at kr 3).2
  have z4 := (heap_at kr 4).1
  have zf4 := (heap_at kr 4).2
  clear kb kr
  go_wp2_with fail
  refine bodyPost_ret (v := xv ⟨6, r, ⟨#[]⟩, ⟨#[]⟩, ⟨#[]⟩⟩) (by simp [results, Tryz.results66, go_sem, xv, *] <;> rfl) rfl ?_
  exact ⟨⟨6, r, ⟨#[]⟩, ⟨#[]⟩, ⟨#[]⟩⟩, rfl, unhide RR, (unhide FE).1, unhide SF⟩
 by_cases h4 : q = 4
 ·subst h4
  have kb := (unhide X1).box
  have X2 := hide (show XdSt w (w4.setCell ⟨b, 0, none⟩ (.int .i64 4)) p a n c xs _ b ⟨4, r, key, ⟨#[]⟩, ⟨#[]⟩⟩ from (unhide X1).kind 4)
  have k0 := (heap_at kb 0).1
  have kf0 := (heap_at kb 0).2
  clear kb
  go_upto_region 13 with fail
  clear k0 kf0
  generalize w4.setCell ⟨b, 0, none⟩ (.int .i64 4) = w5 at *
  go_wp2_with fail
  refine (valueD_any p a n c xs (Kq + 9) w5 (unhide X2).src (by omega)).mono ?_
  rintro e w6 ⟨vv0, rfl, -, hw, hs⟩
  have X3 := hide ((unhide X2).wrote (hs.more (show Kq + 9 + 3 ≤ Kq + 12 by omega)) hw)
  clear hw hs X2
  have kb := (unhide X3).box
  have X4 := hide (show XdSt w (w6.setCell ⟨b, 4, none⟩ (.string vv0)) p a n c xs _ b ⟨4, r, key, ⟨#[]⟩, vv0⟩ from (unhide X3).val vv0)
  have k4 := (heap_at kb 4).1
  have kf4 := (heap_at kb 4).2
  clear kb
  go_upto_region 20 with fail
  clear k4 kf4
  generalize w6.setCell ⟨b, 4, none⟩ (.string vv0) = w7 at *
  have kb := (unhide X4).box
  have kr := (unhide X4).res
  have FE := hide (((unhide X4).fin (.int .i64 4) (.int .i64 r) (.string key) (.string ⟨#[]⟩) (.string vv0)))
  have SF := hide ((unhide FE).2.more (show _ ≤ Kq + 18 by omega))
  have k0 := (heap_at kb 0).1
  have k1 := (heap_at kb 1).1
  have k2 := (heap_at kb 2).1
  have k3 := (heap_at kb 3).1
  have k4 := (heap_at kb 4).1
  have z0 := (heap_at kr 0).1
  have zf0 := (heap_at kr 0).2
  have z1 := (heap_at kr 1).1
  have zf1 := (heap_at kr 1).2
  have z2 := (heap_at kr 2).1
  have zf2 := (heap_at kr 2).2
  have z3 := (heap_at kr 3).1
  have zf3 := (heap_at kr 3).2
  have z4 := (heap_at kr 4).1
  have zf4 := (heap_at kr 4).2
  clear kb kr
  go_wp2_with fail
  refine bodyPost_ret (v := xv ⟨4, r, key, ⟨#[]⟩, vv0⟩) (by simp [results, Tryz.results66, go_sem, xv, *] <;> rfl) rfl ?_
  exact ⟨⟨4, r, key, ⟨#[]⟩, vv0⟩, rfl, unhide RR, (unhide FE).1, unhide SF⟩
 by_cases h5 : q = 5
 ·subst h5
  have kb := (unhide X1).box
  have X2 := hide (show XdSt w (w4.setCell ⟨b, 0, none⟩ (.int .i64 4)) p a n c xs _ b ⟨4, r, key, ⟨#[]⟩, ⟨#[]⟩⟩ from (unhide X1).kind 4)
  have k0 := (heap_at kb 0).1
  have kf0 := (heap_at kb 0).2
  clear kb
  go_upto_region 13 with fail
  clear k0 kf0
  generalize w4.setCell ⟨b, 0, none⟩ (.int .i64 4) = w5 at *
  go_wp2_with fail
  refine (valueD_any p a n c xs (Kq + 9) w5 (unhide X2).src (by omega)).mono ?_
  rintro e w6 ⟨vv0, rfl, -, hw, hs⟩
  have X3 := hide ((unhide X2).wrote (hs.more (show Kq + 9 + 3 ≤ Kq + 12 by omega)) hw)
  clear hw hs X2
  have kb := (unhide X3).box
  have X4 := hide (show XdSt w (w6.setCell ⟨b, 4, none⟩ (.string vv0)) p a n c xs _ b ⟨4, r, key, ⟨#[]⟩, vv0⟩ from (unhide X3).val vv0)
  have k4 := (heap_at kb 4).1
  have kf4 := (heap_at kb 4).2
  clear kb
  go_upto_region 20 with fail
  clear k4 kf4
  generalize w6.setCell ⟨b, 4, none⟩ (.string vv0) = w7 at *
  have kb := (unhide X4).box
  have kr := (unhide X4).res
  have FE := hide (((unhide X4).fin (.int .i64 4) (.int .i64 r) (.string key) (.string ⟨#[]⟩) (.string vv0)))
  have SF := hide ((unhide FE).2.more (show _ ≤ Kq + 18 by omega))
  have k0 := (heap_at kb 0).1
  have k1 := (heap_at kb 1).1
  have k2 := (heap_at kb 2).1
  have k3 := (heap_at kb 3).1
  have k4 := (heap_at kb 4).1
  have z0 := (heap_at kr 0).1
  have zf0 := (heap_at kr 0).2
  have z1 := (heap_at kr 1).1
  have zf1 := (heap_at kr 1).2
  have z2 := (heap_at kr 2).1
  have zf2 := (heap_at kr 2).2
  have z3 := (heap_at kr 3).1
  have zf3 := (heap_at kr 3).2
  have z4 := (heap_at kr 4).1
  have zf4 := (heap_at kr 4).2
  clear kb kr
  go_wp2_with fail
  refine bodyPost_ret (v := xv ⟨4, r, key, ⟨#[]⟩, vv0⟩) (by simp [results, Tryz.results66, go_sem, xv, *] <;> rfl) rfl ?_
  exact ⟨⟨4, r, key, ⟨#[]⟩, vv0⟩, rfl, unhide RR, (unhide FE).1, unhide SF⟩
 by_cases h6 : q = 6
 ·subst h6
  have kb := (unhide X1).box
  have X2 := hide (show XdSt w (w4.setCell ⟨b, 0, none⟩ (.int .i64 4)) p a n c xs _ b ⟨4, r, key, ⟨#[]⟩, ⟨#[]⟩⟩ from (unhide X1).kind 4)
  have k0 := (heap_at kb 0).1
  have kf0 := (heap_at kb 0).2
  clear kb
  go_upto_region 13 with fail
  clear k0 kf0
  generalize w4.setCell ⟨b, 0, none⟩ (.int .i64 4) = w5 at *
  go_wp2_with fail
  refine (valueD_any p a n c xs (Kq + 9) w5 (unhide X2).src (by omega)).mono ?_
  rintro e w6 ⟨vv0, rfl, -, hw, hs⟩
  have X3 := hide ((unhide X2).wrote (hs.more (show Kq + 9 + 3 ≤ Kq + 12 by omega)) hw)
  clear hw hs X2
  have kb := (unhide X3).box
  have X4 := hide (show XdSt w (w6.setCell ⟨b, 4, none⟩ (.string vv0)) p a n c xs _ b ⟨4, r, key, ⟨#[]⟩, vv0⟩ from (unhide X3).val vv0)
  have k4 := (heap_at kb 4).1
  have kf4 := (heap_at kb 4).2
  clear kb
  go_upto_region 20 with fail
  clear k4 kf4
  generalize w6.setCell ⟨b, 4, none⟩ (.string vv0) = w7 at *
  have kb := (unhide X4).box
  have kr := (unhide X4).res
  have FE := hide (((unhide X4).fin (.int .i64 4) (.int .i64 r) (.string key) (.string ⟨#[]⟩) (.string vv0)))
  have SF := hide ((unhide FE).2.more (show _ ≤ Kq + 18 by omega))
  have k0 := (heap_at kb 0).1
  have k1 := (heap_at kb 1).1
  have k2 := (heap_at kb 2).1
  have k3 := (heap_at kb 3).1
  have k4 := (heap_at kb 4).1
  have z0 := (heap_at kr 0).1
  have zf0 := (heap_at kr 0).2
  have z1 := (heap_at kr 1).1
  have zf1 := (heap_at kr 1).2
  have z2 := (heap_at kr 2).1
  have zf2 := (heap_at kr 2).2
  have z3 := (heap_at kr 3).1
  have zf3 := (heap_at kr 3).2
  have z4 := (heap_at kr 4).1
  have zf4 := (heap_at kr 4).2
  clear kb kr
  go_wp2_with fail
  refine bodyPost_ret (v := xv ⟨4, r, key, ⟨#[]⟩, vv0⟩) (by simp [results, Tryz.results66, go_sem, xv, *] <;> rfl) rfl ?_
  exact ⟨⟨4, r, key, ⟨#[]⟩, vv0⟩, rfl, unhide RR, (unhide FE).1, unhide SF⟩
 by_cases h7 : q = 7
 ·subst h7
  have kb := (unhide X1).box
  have X2 := hide (show XdSt w (w4.setCell ⟨b, 0, none⟩ (.int .i64 5)) p a n c xs _ b ⟨5, r, key, ⟨#[]⟩, ⟨#[]⟩⟩ from (unhide X1).kind 5)
  have k0 := (heap_at kb 0).1
  have kf0 := (heap_at kb 0).2
  clear kb
  go_upto_region 16 with fail
  clear k0 kf0
  generalize w4.setCell ⟨b, 0, none⟩ (.int .i64 5) = w5 at *
  go_wp2_with fail
  refine (chanceD_any p a n c xs (Kq + 9) 3 w5 (unhide X2).src (by omega) (by omega) (by omega)).mono ?_
  rintro e w6 ⟨x, rfl, hw, hs⟩
  have X3 := hide ((unhide X2).wrote (hs.more (show Kq + 9 + 3 ≤ Kq + 12 by omega)) hw)
  clear hw hs X2
  cases x with
  | true =>
   have kb := (unhide X3).box
   have X4 := hide (show XdSt w (((((w6.setCell ⟨b, 0, none⟩ (.int .i64 7)).setCell ⟨b, 1, none⟩ (.int .i64 r)).setCell ⟨b, 2, none⟩ (.string ⟨#[]⟩)).setCell ⟨b, 3, none⟩ (.string ⟨#[]⟩)).setCell ⟨b, 4, none⟩ (.string ⟨#[]⟩)) p a n c xs _ b ⟨7, r, ⟨#[]⟩, ⟨#[]⟩, ⟨#[]⟩⟩ from (unhide X3).set 7 r ⟨#[]⟩ ⟨#[]⟩ ⟨#[]⟩)
   have k0 := (heap_at kb 0).1
   have kf0 := (heap_at kb 0).2
   have k1 := (heap_at kb 1).1
   have kf1 := (heap_at kb 1).2
   have k2 := (heap_at kb 2).1
   have kf2 := (heap_at kb 2).2
   have k3 := (heap_at kb 3).1
   have kf3 := (heap_at kb 3).2
   have k4 := (heap_at kb 4).1
   have kf4 := (heap_at kb 4).2
   clear kb
   go_upto_region 20 with fail
   clear k0 kf0 k1 kf1 k2 kf2 k3 kf3 k4 kf4
   generalize (((((w6.setCell ⟨b, 0, none⟩ (.int .i64 7)).setCell ⟨b, 1, none⟩ (.int .i64 r)).setCell ⟨b, 2, none⟩ (.string ⟨#[]⟩)).setCell ⟨b, 3, none⟩ (.string ⟨#[]⟩)).setCell ⟨b, 4, none⟩ (.string ⟨#[]⟩)) = w7 at *
   have kb := (unhide X4).box
   have kr := (unhide X4).res
   have FE := hide (((unhide X4).fin (.int .i64 7) (.int .i64 r) (.string ⟨#[]⟩) (.string ⟨#[]⟩) (.string ⟨#[]⟩)))
   have SF := hide ((unhide FE).2.more (show _ ≤ Kq + 18 by omega))
   have k0 := (heap_at kb 0).1
   have k1 := (heap_at kb 1).1
   have k2 := (heap_at kb 2).1
   have k3 := (heap_at kb 3).1
   have k4 := (heap_at kb 4).1
   have z0 := (heap_at kr 0).1
   have zf0 := (heap_at kr 0).2
   have z1 := (heap_at kr 1).1
   have zf1 := (heap_at kr 1).2
   have z2 := (heap_at kr 2).1
   have zf2 := (heap_at kr 2).2
   have z3 := (heap_at kr 3).1
   have zf3 := (heap_at kr 3).2
   have z4 := (heap_at kr 4).1
   have zf4 := (heap_at kr 4).2
   clear kb kr
   go_wp2_with fail
   refine bodyPost_ret (v := xv ⟨7, r, ⟨#[]⟩, ⟨#[]⟩, ⟨#[]⟩⟩) (by simp [results, Tryz.results66, go_sem, xv, *] <;> rfl) rfl ?_
   exact ⟨⟨7, r, ⟨#[]⟩, ⟨#[]⟩, ⟨#[]⟩⟩, rfl, unhide RR, (unhide FE).1, unhide SF⟩
  | false =>
   have kb := (unhide X3).box
   have kr := (unhide X3).res
   have FE := hide (((unhide X3).fin (.int .i64 5) (.int .i64 r) (.string key) (.string ⟨#[]⟩) (.string ⟨#[]⟩)))
   have SF := hide ((unhide FE).2.more (show _ ≤ Kq + 18 by omega))
   have k0 := (heap_at kb 0).1
   have k1 := (heap_at kb 1).1
   have k2 := (heap_at kb 2).1
   have k3 := (heap_at kb 3).1
   have k4 := (heap_at kb 4).1
   have z0 := (heap_at kr 0).1
   have zf0 := (heap_at kr 0).2
   have z1 := (heap_at kr 1).1
   have zf1 := (heap_at kr 1).2
   have z2 := (heap_at kr 2).1
   have zf2 := (heap_at kr 2).2
   have z3 := (heap_at kr 3).1
   have zf3 := (heap_at kr 3).2
   have z4 := (heap_at kr 4).1
   have zf4 := (heap_at kr 4).2
   clear kb kr
   go_wp2_with fail
   refine bodyPost_ret (v := xv ⟨5, r, key, ⟨#[]⟩, ⟨#[]⟩⟩) (by simp [results, Tryz.results66, go_sem, xv, *] <;> rfl) rfl ?_
   exact ⟨⟨5, r, key, ⟨#[]⟩, ⟨#[]⟩⟩, rfl, unhide RR, (unhide FE).1, unhide SF⟩
 by_cases h8 : q = 8
 ·subst h8
  go_upto_region 19 with fail
  refine wp_region_held_drew (S := (fun u => u.cell? ⟨b, 1, none⟩ = some (.int .i64 r))) (by kernel_rfl) (xd_cell (unhide X1)) (fun hHeld => ?_)
  have Xs := hide (show XdSt w w4.drew p a n c xs (Kq + 9) b ⟨2, r, key, ⟨#[]⟩, ⟨#[]⟩⟩ from (unhide X1).wrote ((unhide X1).src.below (Below.refl _ _).drew) ⟨rfl, rfl, rfl, Nat.le_refl _, fun _ _ _ => rfl⟩)
  clear X1
  generalize w4.drew = us at *
  refine tk 0 42 rfl rfl hHeld ?_
  simp only [Act.put, lA, lB, lC]
  refine tk 1 43 rfl rfl hHeld ?_
  simp only [Act.put, lA, lB, lC]
  refine tk 2 44 rfl rfl hHeld ?_
  simp only [Act.put, lA, lB, lC]
  refine tk 5 47 rfl rfl hHeld ?_
  simp only [Act.put, lA, lB, lC]
  refine wpAnyH_ready (rs := [3, 6]) (by kernel_rfl) (by simp) ?_
  refine AllReadyH.cons rfl (fun K hK => ?_) (AllReadyH.cons rfl (fun K hK => ?_) AllReadyH.nil)
  ·have X3 := hide ((unhide Xs).alloc (.cells #[.string ⟨#[]⟩, .string ⟨#[97]⟩, .string ⟨#[98]⟩] 9))
   have G33 := hide (heap_alloc_new us (.cells #[.string ⟨#[]⟩, .string ⟨#[97]⟩, .string ⟨#[98]⟩] 9))
   have hg3 : us.heap.size ≠ p := by have := cell_lt (unhide Xs).src.code; simp only at this; omega
   go_simp
   generalize us.alloc (.cells #[.string ⟨#[]⟩, .string ⟨#[97]⟩, .string ⟨#[98]⟩] 9) = u3 at *
   generalize us.heap.size = g3 at *
   refine hK.out _ _ (xd_cell (unhide X3)) (fun hHeld => ?_)
   clear hK K
   refine wpAnyH_ready (rs := [4, 6]) (by kernel_rfl) (by simp) ?_
   refine AllReadyH.cons rfl (fun K hK => ?_) (AllReadyH.cons rfl (fun K hK => ?_) AllReadyH.nil)
   ·go_simp
    refine (pick_any p g3 3 3 a n c xs (Kq + 9) u3 (unhide X3).src (by omega) (by omega) (by omega) hg3 (fun _ => True) (lit_of (unhide G33) three_str)).mono ?_
    rintro e u3_4 ⟨kx, rfl, -, ho, hs⟩
    have X3_4 := hide ((unhide X3).wrote (hs.more (show Kq + 9 + 3 ≤ Kq + 12 by omega)) ho.wrote)
    have G33_4 := hide ((ho.wrote.block g3 hg3 (blk_lt (unhide G33))).trans (unhide G33))
    clear ho hs
    refine hK.out _ _ (xd_cell (unhide X3_4)) (fun hHeld => ?_)
    clear hK K
    refine rd [6] (.cons rfl (fun K hK => ?_) .nil)
    have X3_4_6 := hide ((unhide X3_4).alloc (.cells #[.string ⟨#[]⟩, .string ⟨#[99]⟩, .string ⟨#[100]⟩] 9))
    have G63_4_6 := hide (heap_alloc_new u3_4 (.cells #[.string ⟨#[]⟩, .string ⟨#[99]⟩, .string ⟨#[100]⟩] 9))
    have hg6 : u3_4.heap.size ≠ p := by have := cell_lt (unhide X3_4).src.code; simp only at this; omega
    have G33_4_6 := hide ((((Below.refl u3_4.heap.size u3_4).alloc (Nat.le_refl _) (.cells #[.string ⟨#[]⟩, .string ⟨#[99]⟩, .string ⟨#[100]⟩] 9)).block g3 (blk_lt (unhide G33_4))).trans (unhide G33_4))
    go_simp
    generalize u3_4.alloc (.cells #[.string ⟨#[]⟩, .string ⟨#[99]⟩, .string ⟨#[100]⟩] 9) = u3_4_6 at *
    generalize u3_4.heap.size = g6 at *
    refine hK.out _ _ (xd_cell (unhide X3_4_6)) (fun hHeld => ?_)
    clear hK K
    refine rd [7] (.cons rfl (fun K hK => ?_) .nil)
    go_simp
    refine (pick_any p g6 3 3 a n c xs (Kq + 12) u3_4_6 (unhide X3_4_6).src (by omega) (by omega) (by omega) hg6 (fun _ => True) (lit_of (unhide G63_4_6) three_str)).mono ?_
    rintro e u3_4_6_7 ⟨ky, rfl, -, ho, hs⟩
    have X3_4_6_7 := hide ((unhide X3_4_6).wrote (hs.more (show Kq + 12 + 3 ≤ Kq + 15 by omega)) ho.wrote)
    have G33_4_6_7 := hide ((ho.wrote.block g3 hg3 (blk_lt (unhide G33_4_6))).trans (unhide G33_4_6))
    have G63_4_6_7 := hide ((ho.wrote.block g6 hg6 (blk_lt (unhide G63_4_6))).trans (unhide G63_4_6))
    clear ho hs
    refine hK.out _ _ (xd_cell (unhide X3_4_6_7)) (fun hHeld => ?_)
    clear hK K
    refine tk 8 50 rfl rfl hHeld ?_
    simp only [Act.put, lA, lB, lC]
    refine rd [9] (.cons rfl (fun K hK => ?_) .nil)
    have kb := (unhide X3_4_6_7).box
    have XF := hide (show XdSt w (((((u3_4_6_7.setCell ⟨b, 0, none⟩ (.int .i64 3)).setCell ⟨b, 1, none⟩ (.int .i64 r)).setCell ⟨b, 2, none⟩ (.string kx)).setCell ⟨b, 3, none⟩ (.string ky)).setCell ⟨b, 4, none⟩ (.string ⟨#[]⟩)) p a n c xs (Kq + 15) b ⟨3, r, kx, ky, ⟨#[]⟩⟩ from (unhide X3_4_6_7).set 3 r kx ky ⟨#[]⟩)
    have k0 := (heap_at kb 0).1
    have k1 := (heap_at kb 1).1
    have k2 := (heap_at kb 2).1
    have k3 := (heap_at kb 3).1
    have k4 := (heap_at kb 4).1
    have kf0 := (heap_at kb 0).2
    have kf1 := (heap_at kb 1).2
    have kf2 := (heap_at kb 2).2
    have kf3 := (heap_at kb 3).2
    have kf4 := (heap_at kb 4).2
    clear kb
    go_simp
    refine hK.out _ _ (xd_cell (unhide XF)) (fun hHeld => ?_)
    clear hK K
    clear k0 kf0 k1 kf1 k2 kf2 k3 kf3 k4 kf4
    generalize (((((u3_4_6_7.setCell ⟨b, 0, none⟩ (.int .i64 3)).setCell ⟨b, 1, none⟩ (.int .i64 r)).setCell ⟨b, 2, none⟩ (.string kx)).setCell ⟨b, 3, none⟩ (.string ky)).setCell ⟨b, 4, none⟩ (.string ⟨#[]⟩)) = w9 at *
    refine wpAnyH_done (by kernel_rfl) ?_ _
    clear hHeld
    have kb := (unhide XF).box
    have kr := (unhide XF).res
    have FE := hide (((unhide XF).fin (.int .i64 3) (.int .i64 r) (.string kx) (.string ky) (.string ⟨#[]⟩)))
    have SF := hide ((unhide FE).2.more (show _ ≤ Kq + 18 by omega))
    have k0 := (heap_at kb 0).1
    have k1 := (heap_at kb 1).1
    have k2 := (heap_at kb 2).1
    have k3 := (heap_at kb 3).1
    have k4 := (heap_at kb 4).1
    have z0 := (heap_at kr 0).1
    have zf0 := (heap_at kr 0).2
    have z1 := (heap_at kr 1).1
    have zf1 := (heap_at kr 1).2
    have z2 := (heap_at kr 2).1
    have zf2 := (heap_at kr 2).2
    have z3 := (heap_at kr 3).1
    have zf3 := (heap_at kr 3).2
    have z4 := (heap_at kr 4).1
    have zf4 := (heap_at kr 4).2
    clear kb kr
    go_wp2_with fail
    refine bodyPost_ret (v := xv ⟨3, r, kx, ky, ⟨#[]⟩⟩) (by simp [results, Tryz.results66, go_sem, xv, *] <;> rfl) rfl ?_
    exact ⟨⟨3, r, kx, ky, ⟨#[]⟩⟩, rfl, unhide RR, (unhide FE).1, unhide SF⟩
   ·have X3_6 := hide ((unhide X3).alloc (.cells #[.string ⟨#[]⟩, .string ⟨#[99]⟩, .string ⟨#[100]⟩] 9))
    have G63_6 := hide (heap_alloc_new u3 (.cells #[.string ⟨#[]⟩, .string ⟨#[99]⟩, .string ⟨#[100]⟩] 9))
    have hg6 : u3.heap.size ≠ p := by have := cell_lt (unhide X3).src.code; simp only at this; omega
    have G33_6 := hide ((((Below.refl u3.heap.size u3).alloc (Nat.le_refl _) (.cells #[.string ⟨#[]⟩, .string ⟨#[99]⟩, .string ⟨#[100]⟩] 9)).block g3 (blk_lt (unhide G33))).trans (unhide G33))
    go_simp
    generalize u3.alloc (.cells #[.string ⟨#[]⟩, .string ⟨#[99]⟩, .string ⟨#[100]⟩] 9) = u3_6 at *
    generalize u3.heap.size = g6 at *
    refine hK.out _ _ (xd_cell (unhide X3_6)) (fun hHeld => ?_)
    clear hK K
    refine rd [4] (.cons rfl (fun K hK => ?_) .nil)
    go_simp
    refine (pick_any p g3 3 3 a n c xs (Kq + 9) u3_6 (unhide X3_6).src (by omega) (by omega) (by omega) hg3 (fun _ => True) (lit_of (unhide G33_6) three_str)).mono ?_
    rintro e u3_6_4 ⟨kx, rfl, -, ho, hs⟩
    have X3_6_4 := hide ((unhide X3_6).wrote (hs.more (show Kq + 9 + 3 ≤ Kq + 12 by omega)) ho.wrote)
    have G33_6_4 := hide ((ho.wrote.block g3 hg3 (blk_lt (unhide G33_6))).trans (unhide G33_6))
    have G63_6_4 := hide ((ho.wrote.block g6 hg6 (blk_lt (unhide G63_6))).trans (unhide G63_6))
    clear ho hs
    refine hK.out _ _ (xd_cell (unhide X3_6_4)) (fun hHeld => ?_)
    clear hK K
    refine rd [7] (.cons rfl (fun K hK => ?_) .nil)
    go_simp
    refine (pick_any p g6 3 3 a n c xs (Kq + 12) u3_6_4 (unhide X3_6_4).src (by omega) (by omega) (by omega) hg6 (fun _ => True) (lit_of (unhide G63_6_4) three_str)).mono ?_
    rintro e u3_6_4_7 ⟨ky, rfl, -, ho, hs⟩
    have X3_6_4_7 := hide ((unhide X3_6_4).wrote (hs.more (show Kq + 12 + 3 ≤ Kq + 15 by omega)) ho.wrote)
    have G33_6_4_7 := hide ((ho.wrote.block g3 hg3 (blk_lt (unhide G33_6_4))).trans (unhide G33_6_4))
    have G63_6_4_7 := hide ((ho.wrote.block g6 hg6 (blk_lt (unhide G63_6_4))).trans (unhide G63_6_4))
    clear ho hs
    refine hK.out _ _ (xd_cell (unhide X3_6_4_7)) (fun hHeld => ?_)
    clear hK K
    refine tk 8 50 rfl rfl hHeld ?_
    simp only [Act.put, lA, lB, lC]
    refine rd [9] (.cons rfl (fun K hK => ?_) .nil)
    have kb := (unhide X3_6_4_7).box
    have XF := hide (show XdSt w (((((u3_6_4_7.setCell ⟨b, 0, none⟩ (.int .i64 3)).setCell ⟨b, 1, none⟩ (.int .i64 r)).setCell ⟨b, 2, none⟩ (.string kx)).setCell ⟨b, 3, none⟩ (.string ky)).setCell ⟨b, 4, none⟩ (.string ⟨#[]⟩)) p a n c xs (Kq + 15) b ⟨3, r, kx, ky, ⟨#[]⟩⟩ from (unhide X3_6_4_7).set 3 r kx ky ⟨#[]⟩)
    have k0 := (heap_at kb 0).1
    have k1 := (heap_at kb 1).1
    have k2 := (heap_at kb 2).1
    have k3 := (heap_at kb 3).1
    have k4 := (heap_at kb 4).1
    have kf0 := (heap_at kb 0).2
    have kf1 := (heap_at kb 1).2
    have kf2 := (heap_at kb 2).2
    have kf3 := (heap_at kb 3).2
    have kf4 := (heap_at kb 4).2
    clear kb
    go_simp
    refine hK.out _ _ (xd_cell (unhide XF)) (fun hHeld => ?_)
    clear hK K
    clear k0 kf0 k1 kf1 k2 kf2 k3 kf3 k4 kf4
    generalize (((((u3_6_4_7.setCell ⟨b, 0, none⟩ (.int .i64 3)).setCell ⟨b, 1, none⟩ (.int .i64 r)).setCell ⟨b, 2, none⟩ (.string kx)).setCell ⟨b, 3, none⟩ (.string ky)).setCell ⟨b, 4, none⟩ (.string ⟨#[]⟩)) = w9 at *
    refine wpAnyH_done (by kernel_rfl) ?_ _
    clear hHeld
    have kb := (unhide XF).box
    have kr := (unhide XF).res
    have FE := hide (((unhide XF).fin (.int .i64 3) (.int .i64 r) (.string kx) (.string ky) (.string ⟨#[]⟩)))
    have SF := hide ((unhide FE).2.more (show _ ≤ Kq + 18 by omega))
    have k0 := (heap_at kb 0).1
    have k1 := (heap_at kb 1).1
    have k2 := (heap_at kb 2).1
    have k3 := (heap_at kb 3).1
    have k4 := (heap_at kb 4).1
    have z0 := (heap_at kr 0).1
    have zf0 := (heap_at kr 0).2
    have z1 := (heap_at kr 1).1
    have zf1 := (heap_at kr 1).2
    have z2 := (heap_at kr 2).1
    have zf2 := (heap_at kr 2).2
    have z3 := (heap_at kr 3).1
    have zf3 := (heap_at kr 3).2
    have z4 := (heap_at kr 4).1
    have zf4 := (heap_at kr 4).2
    clear kb kr
    go_wp2_with fail
    refine bodyPost_ret (v := xv ⟨3, r, kx, ky, ⟨#[]⟩⟩) (by simp [results, Tryz.results66, go_sem, xv, *] <;> rfl) rfl ?_
    exact ⟨⟨3, r, kx, ky, ⟨#[]⟩⟩, rfl, unhide RR, (unhide FE).1, unhide SF⟩
  ·have X6 := hide ((unhide Xs).alloc (.cells #[.string ⟨#[]⟩, .string ⟨#[99]⟩, .string ⟨#[100]⟩] 9))
   have G66 := hide (heap_alloc_new us (.cells #[.string ⟨#[]⟩, .string ⟨#[99]⟩, .string ⟨#[100]⟩] 9))
   have hg6 : us.heap.size ≠ p := by have := cell_lt (unhide Xs).src.code; simp only at this; omega
   go_simp
   generalize us.alloc (.cells #[.string ⟨#[]⟩, .string ⟨#[99]⟩, .string ⟨#[100]⟩] 9) = u6 at *
   generalize us.heap.size = g6 at *
   refine hK.out _ _ (xd_cell (unhide X6)) (fun hHeld => ?_)
   clear hK K
   refine rd [3] (.cons rfl (fun K hK => ?_) .nil)
   have X6_3 := hide ((unhide X6).alloc (.cells #[.string ⟨#[]⟩, .string ⟨#[97]⟩, .string ⟨#[98]⟩] 9))
   have G36_3 := hide (heap_alloc_new u6 (.cells #[.string ⟨#[]⟩, .string ⟨#[97]⟩, .string ⟨#[98]⟩] 9))
   have hg3 : u6.heap.size ≠ p := by have := cell_lt (unhide X6).src.code; simp only at this; omega
   have G66_3 := hide ((((Below.refl u6.heap.size u6).alloc (Nat.le_refl _) (.cells #[.string ⟨#[]⟩, .string ⟨#[97]⟩, .string ⟨#[98]⟩] 9)).block g6 (blk_lt (unhide G66))).trans (unhide G66))
   go_simp
   generalize u6.alloc (.cells #[.string ⟨#[]⟩, .string ⟨#[97]⟩, .string ⟨#[98]⟩] 9) = u6_3 at *
   generalize u6.heap.size = g3 at *
   refine hK.out _ _ (xd_cell (unhide X6_3)) (fun hHeld => ?_)
   clear hK K
   refine rd [4] (.cons rfl (fun K hK => ?_) .nil)
   go_simp
   refine (pick_any p g3 3 3 a n c xs (Kq + 9) u6_3 (unhide X6_3).src (by omega) (by omega) (by omega) hg3 (fun _ => True) (lit_of (unhide G36_3) three_str)).mono ?_
   rintro e u6_3_4 ⟨kx, rfl, -, ho, hs⟩
   have X6_3_4 := hide ((unhide X6_3).wrote (hs.more (show Kq + 9 + 3 ≤ Kq + 12 by omega)) ho.wrote)
   have G36_3_4 := hide ((ho.wrote.block g3 hg3 (blk_lt (unhide G36_3))).trans (unhide G36_3))
   have G66_3_4 := hide ((ho.wrote.block g6 hg6 (blk_lt (unhide G66_3))).trans (unhide G66_3))
   clear ho hs
   refine hK.out _ _ (xd_cell (unhide X6_3_4)) (fun hHeld => ?_)
   clear hK K
   refine rd [7] (.cons rfl (fun K hK => ?_) .nil)
   go_simp
   refine (pick_any p g6 3 3 a n c xs (Kq + 12) u6_3_4 (unhide X6_3_4).src (by omega) (by omega) (by omega) hg6 (fun _ => True) (lit_of (unhide G66_3_4) three_str)).mono ?_
   rintro e u6_3_4_7 ⟨ky, rfl, -, ho, hs⟩
   have X6_3_4_7 := hide ((unhide X6_3_4).wrote (hs.more (show Kq + 12 + 3 ≤ Kq + 15 by omega)) ho.wrote)
   have G36_3_4_7 := hide ((ho.wrote.block g3 hg3 (blk_lt (unhide G36_3_4))).trans (unhide G36_3_4))
   have G66_3_4_7 := hide ((ho.wrote.block g6 hg6 (blk_lt (unhide G66_3_4))).trans (unhide G66_3_4))
   clear ho hs
   refine hK.out _ _ (xd_cell (unhide X6_3_4_7)) (fun hHeld => ?_)
   clear hK K
   refine tk 8 50 rfl rfl hHeld ?_
   simp only [Act.put, lA, lB, lC]
   refine rd [9] (.cons rfl (fun K hK => ?_) .nil)
   have kb := (unhide X6_3_4_7).box
   have XF := hide (show XdSt w (((((u6_3_4_7.setCell ⟨b, 0, none⟩ (.int .i64 3)).setCell ⟨b, 1, none⟩ (.int .i64 r)).setCell ⟨b, 2, none⟩ (.string kx)).setCell ⟨b, 3, none⟩ (.string ky)).setCell ⟨b, 4, none⟩ (.string ⟨#[]⟩)) p a n c xs (Kq + 15) b ⟨3, r, kx, ky, ⟨#[]⟩⟩ from (unhide X6_3_4_7).set 3 r kx ky ⟨#[]⟩)
   have k0 := (heap_at kb 0).1
   have k1 := (heap_at kb 1).1
   have k2 := (heap_at kb 2).1
   have k3 := (heap_at kb 3).1
   have k4 := (heap_at kb 4).1
   have kf0 := (heap_at kb 0).2
   have kf1 := (heap_at kb 1).2
   have kf2 := (heap_at kb 2).2
   have kf3 := (heap_at kb 3).2
   have kf4 := (heap_at kb 4).2
   clear kb
   go_simp
   refine hK.out _ _ (xd_cell (unhide XF)) (fun hHeld => ?_)
   clear hK K
   clear k0 kf0 k1 kf1 k2 kf2 k3 kf3 k4 kf4
   generalize (((((u6_3_4_7.setCell ⟨b, 0, none⟩ (.int .i64 3)).setCell ⟨b, 1, none⟩ (.int .i64 r)).setCell ⟨b, 2, none⟩ (.string kx)).setCell ⟨b, 3, none⟩ (.string ky)).setCell ⟨b, 4, none⟩ (.string ⟨#[]⟩)) = w9 at *
   refine wpAnyH_done (by kernel_rfl) ?_ _
   clear hHeld
   have kb := (unhide XF).box
   have kr := (unhide XF).res
   have FE := hide (((unhide XF).fin (.int .i64 3) (.int .i64 r) (.string kx) (.string ky) (.string ⟨#[]⟩)))
   have SF := hide ((unhide FE).2.more (show _ ≤ Kq + 18 by omega))
   have k0 := (heap_at kb 0).1
   have k1 := (heap_at kb 1).1
   have k2 := (heap_at kb 2).1
   have k3 := (heap_at kb 3).1
   have k4 := (heap_at kb 4).1
   have z0 := (heap_at kr 0).1
   have zf0 := (heap_at kr 0).2
   have z1 := (heap_at kr 1).1
   have zf1 := (heap_at kr 1).2
   have z2 := (heap_at kr 2).1
   have zf2 := (heap_at kr 2).2
   have z3 := (heap_at kr 3).1
   have zf3 := (heap_at kr 3).2
   have z4 := (heap_at kr 4).1
   have zf4 := (heap_at kr 4).2
   clear kb kr
   go_wp2_with fail
   refine bodyPost_ret (v := xv ⟨3, r, kx, ky, ⟨#[]⟩⟩) (by simp [results, Tryz.results66, go_sem, xv, *] <;> rfl) rfl ?_
   exact ⟨⟨3, r, kx, ky, ⟨#[]⟩⟩, rfl, unhide RR, (unhide FE).1, unhide SF⟩
 have kb := (unhide X1).box
 have kr := (unhide X1).res
 have FE := hide (((unhide X1).fin (.int .i64 2) (.int .i64 r) (.string key) (.string ⟨#[]⟩) (.string ⟨#[]⟩)))
 have SF := hide ((unhide FE).2.more (show _ ≤ Kq + 18 by omega))
 have k0 := (heap_at kb 0).1
 have k1 := (heap_at kb 1).1
 have k2 := (heap_at kb 2).1
 have k3 := (heap_at kb 3).1
 have k4 := (heap_at kb 4).1
 have z0 := (heap_at kr 0).1
 have zf0 := (heap_at kr 0).2
 have z1 := (heap_at kr 1).1
 have zf1 := (heap_at kr 1).2
 have z2 := (heap_at kr 2).1
 have zf2 := (heap_at kr 2).2
 have z3 := (heap_at kr 3).1
 have zf3 := (heap_at kr 3).2
 have z4 := (heap_at kr 4).1
 have zf4 := (heap_at kr 4).2
 clear kb kr
 go_wp2_with fail
 refine bodyPost_ret (v := xv ⟨2, r, key, ⟨#[]⟩, ⟨#[]⟩⟩) (by simp [results, Tryz.results66, go_sem, xv, *] <;> rfl) rfl ?_
 exact ⟨⟨2, r, key, ⟨#[]⟩, ⟨#[]⟩⟩, rfl, unhide RR, (unhide FE).1, unhide SF⟩
end Go.Proofs.YtdnjgbckkmbmfaaGreat

namespace Go.Proofs.YtdnjgbckkmbmfaaGreat
open Go.RowKit

theorem Tryz.infoXa : (Tryz.prog.info? 37).map (fun i => (i.zero, i.size, i.bytes)) = some (some (.agg #[.int .i64 0, .int .i64 0, .string ByteArray.empty, .string ByteArray.empty, .string ByteArray.empty]), 5, 64) := by kernel_rfl
def okX (d : TxD) : Prop := 0 ≤ d.ses ∧ d.ses ≤ 2
structure XaSt (w wr : World) (p : Nat) (a : Option Addr) (n c : Nat) (xs : List Int) (K : Int) (v : Value) (ds : List TxD) : Prop where
 src : Src wr p a n c xs K
 own : XOwns wr w.heap.size v ds
 wro : Wrote p w wr
 hp : p < w.heap.size
 hc : ∀ x, a = some x → 0 < n → x.block < w.heap.size
 ok : ∀ d ∈ ds, okX d
theorem XaSt.wrote {w wr wr2 : World} {p : Nat} {a : Option Addr} {n c : Nat} {xs : List Int} {K K2 : Int} {v : Value} {ds : List TxD} (h : XaSt w wr p a n c xs K v ds) (hs2 : Src wr2 p a n c xs K2) (hw : Wrote p wr wr2) : XaSt w wr2 p a n c xs K2 v ds :=
 have hwb : WrB (fun i => i = p) wr wr2 := ⟨hw.os, hw.tape, hw.output, hw.size, fun k hk hp => hw.block k hp hk⟩
 ⟨hs2, rr_owns_wr h.own hwb (fun i hi e => by have := (World.ownsRow.lt h.own i hi).1; have := h.hp; omega), h.wro.trans hw, h.hp, h.hc, h.ok⟩
theorem XaSt.alloc {w wr : World} {p : Nat} {a : Option Addr} {n c : Nat} {xs : List Int} {K : Int} {v : Value} {ds : List TxD} (h : XaSt w wr p a n c xs K v ds) (o : Obj) : XaSt w (wr.alloc o) p a n c xs K v ds := h.wrote (h.src.alloc o) (Wrote.alloc wr p o)
theorem XaSt.app {w wr : World} {p : Nat} {a : Option Addr} {n c : Nat} {xs : List Int} {K : Int} {v : Value} {ds : List TxD} {d : TxD} (h : XaSt w wr p a n c xs K v ds) (hz : ds.length ≤ 1000) (hv : v ≠ .slice none 0 0) (hd : okX d) :
  ∃ g c' w6, (Builtin.append_ #[23, 23] 23 #[v, .slice (some ⟨wr.heap.size, 0, none⟩) 1 1]).run Tryz.prog (wr.alloc (.cells #[.int .i64 d.kind, .int .i64 d.ses, .string d.key, .string d.to, .string d.val] 37)) = .ok (.slice (some ⟨g, 0, none⟩) (ds.length + 1) c') w6 ∧ XaSt w w6 p a n c xs K (.slice (some ⟨g, 0, none⟩) (ds.length + 1) c') (ds ++ [d]) ∧ ∀ i, i < wr.heap.size → v.ownBlock ≠ some i → w6.heap[i]? = wr.heap[i]? := by
 obtain ⟨i0, hi0, hz0, hz1, hz2⟩ := info_parts Tryz.infoXa
 have bA := (Below.refl wr.heap.size wr).alloc (Nat.le_refl _) (.cells #[.int .i64 d.kind, .int .i64 d.ses, .string d.key, .string d.to, .string d.val] 37)
 have K4 := heap_alloc_new wr (.cells #[.int .i64 d.kind, .int .i64 d.ses, .string d.key, .string d.to, .string d.val] 37)
 have oA := rb_ownsRow_below h.own bA
 have hsz := h.wro.size
 obtain ⟨v', w6, hr, ho, hgr, hnil⟩ := run_append_own (P := Tryz.prog) _ w.heap.size 23 23 37 i0 (.agg #[.int .i64 0, .int .i64 0, .string ByteArray.empty, .string ByteArray.empty, .string ByteArray.empty]) 5 64 Tryz.underlying23 hi0 hz0 hz1 hz2 rfl (by decide) _ _ _ oA ⟨wr.heap.size, 0, none⟩ 1 1 [.int .i64 d.kind, .int .i64 d.ses, .string d.key, .string d.to, .string d.val] rfl (fun j u hu => by
   rw [Addr.add_lit, (heap_at K4 _).1]
   simpa using hu) (by
   intro u hu
   simp only [List.mem_cons, List.not_mem_nil, or_false] at hu
   rcases hu with rfl | rfl | rfl | rfl | rfl <;> rfl) (by unfold maxLen; omega) (by omega) (Nat.le_trans hsz bA.size)
 have hw := WrB.of_grown hgr
 rcases ho.2 with ⟨e, _⟩ | ⟨g, cap, cur, e, hbg, _⟩
 ·exact absurd (hnil.1 e).1 hv
 subst e
 refine ⟨g, cap, w6, hr, ⟨?_, ?_, ?_, h.hp, h.hc, fun x hx => (List.mem_append.1 hx).elim (h.ok x) fun e => by cases List.mem_singleton.1 e; exact hd⟩, fun i hi hne => (hw.block i (Nat.lt_of_lt_of_le hi bA.size) hne).trans (bA.block i hi)⟩
 ·refine (h.src.alloc _).of_blocks' (hw.block p (by have := h.hp; have := bA.size; omega) (fun e => by have := (World.ownsRow.lt oA p e).1; have := h.hp; omega)) (fun x hx hn => hw.block x.block (by have := h.hc x hx hn; have := bA.size; omega) (fun e => by have := (World.ownsRow.lt oA _ e).1; have := h.hc x hx hn; omega))
 ·unfold XOwns
  rw [xcs_append, List.length_append]
  exact ho
 ·exact ⟨hw.os.trans (bA.os.trans h.wro.os), hw.tape.trans (bA.tape.trans h.wro.tape), hw.output.trans (bA.output.trans h.wro.output), Nat.le_trans hsz (Nat.le_trans bA.size hw.size), fun k hk hl => (hw.block k (Nat.lt_of_lt_of_le hl (Nat.le_trans hsz bA.size)) (fun e => by have := (World.ownsRow.lt oA k e).1; omega)).trans ((bA.block k (Nat.lt_of_lt_of_le hl hsz)).trans (h.wro.block k hk hl))⟩
def XaRes (p : Nat) (w : World) (e : Ending) (w' : World) : Prop := ∃ g m' c' ds, e = .returned (.slice (some ⟨g, 0, none⟩) m' c') ∧ XOwns w' w.heap.size (.slice (some ⟨g, 0, none⟩) m' c') ds ∧ ds.length ≤ 60 ∧ (∀ d ∈ ds, okX d) ∧ Wrote p w w'
theorem xa_below {w w1 w2 : World} (h1 : Below w.heap.size w w1) (hw : Wrote w.heap.size w1 w2) : Below w.heap.size w w2 := h1.trans (hw.below (Nat.le_refl _) h1.size)
set_option maxHeartbeats 8000000 in
theorem txActsD_any (p : Nat) (a : Option Addr) (n c : Nat) (xs : List Int) (K : Int) (w : World) (h : Src w p a n c xs K) (hK : K ≤ 100) :
  Calls Tryz.prog 30 #[.pointer (some ⟨p, 0, none⟩)] w fun e w' => XaRes p w e w' := by
 have hp := cell_lt h.code
 have ha := src_code' h
 have bA := (Below.refl w.heap.size w).alloc (Nat.le_refl _) (.cells #[.int .i64 1, .int .i64 0, .string ⟨#[]⟩, .string ⟨#[]⟩, .string ⟨#[]⟩, .int .i64 1, .int .i64 1, .string ⟨#[]⟩, .string ⟨#[]⟩, .string ⟨#[]⟩] 37)
 have T0 := hide (show XaSt w (w.alloc (.cells #[.int .i64 1, .int .i64 0, .string ⟨#[]⟩, .string ⟨#[]⟩, .string ⟨#[]⟩, .int .i64 1, .int .i64 1, .string ⟨#[]⟩, .string ⟨#[]⟩, .string ⟨#[]⟩] 37)) p a n c xs K (.slice (some ⟨w.heap.size, 0, none⟩) 2 2) [⟨1, 0, ⟨#[]⟩, ⟨#[]⟩, ⟨#[]⟩⟩, ⟨1, 1, ⟨#[]⟩, ⟨#[]⟩, ⟨#[]⟩⟩] from
  ⟨h.alloc _, ⟨rfl, .inr ⟨w.heap.size, 2, _, rfl, Nat.le_refl _, heap_alloc_new _ _, Nat.le_refl _, by unfold maxLen; omega, rfl, rfl⟩⟩, ⟨bA.os, bA.tape, bA.output, bA.size, fun k _ hl => bA.block k hl⟩, hp, ha, fun d hd => by
   simp only [List.mem_cons, List.not_mem_nil, or_false] at hd
   rcases hd with rfl | rfl <;> exact ⟨by decide, by decide⟩⟩)
 clear h bA ha
 go_enter Tryz.func30, Tryz.ntmps30
 go_wp2_with fail
 generalize w.alloc (.cells #[.int .i64 1, .int .i64 0, .string ⟨#[]⟩, .string ⟨#[]⟩, .string ⟨#[]⟩, .int .i64 1, .int .i64 1, .string ⟨#[]⟩, .string ⟨#[]⟩, .string ⟨#[]⟩] 37) = W0 at *
 refine (size_draw p a n c xs K 26 W0 (unhide T0).src).mono ?_
 rintro e w1 ⟨r, rfl, hr, hw1⟩
 subst hw1
 have hrw : IntKind.i64.wrap ((r : Int) + 4) = (r : Int) + 4 := by rw [IntKind.wrap_i64]; omega
 go_wp2_with fail
 refine (next_any p a n c xs K ((r : Int) + 4) w1 (unhide T0).src (by omega) (by omega) (by omega)).mono ?_
 rintro e w2 ⟨q, rfl, hq0, hq1, ho, hs⟩
 have T1 := hide ((unhide T0).wrote hs ho.wrote)
 obtain ⟨qn, rfl⟩ : ∃ qn : Nat, q = (qn : Int) := ⟨q.toNat, by omega⟩
 have hqn : qn ≤ 29 := by omega
 clear T0 ho hs hq0 hq1 hrw hr
 generalize w.heap.size = g0 at *
 go_wp2_with fail
 go_loopw [3, 4] (fun ov iv wr => ∃ (k j g cp L : Nat) (ds : List TxD), ov = .slice (some ⟨g, 0, none⟩) L cp ∧ iv = .int .i64 (k : Int) ∧ k + j ≤ 29 ∧ L ≤ 2 + 2 * j ∧ Hid (ds.length = L) ∧ Hid (XaSt w wr p a n c xs (K + 3 + 21 * (j : Int)) (.slice (some ⟨g, 0, none⟩) L cp) ds)) (fun _ iv _ => (intOf iv).toNat)
 case atStart => exact ⟨qn, 0, g0, 2, 2, [⟨1, 0, ⟨#[]⟩, ⟨#[]⟩, ⟨#[]⟩⟩, ⟨1, 1, ⟨#[]⟩, ⟨#[]⟩, ⟨#[]⟩⟩], rfl, rfl, by omega, by omega, rfl, hide (by simpa using unhide T1)⟩
 case round =>
  clear T1
  obtain ⟨k, j, g, cp, L, ds, rfl, rfl, hkL, hLj, hL, hT⟩ := hrel
  by_cases hk : k = 0
  ·subst hk
   have hLc : (L : Int) ≤ (cp : Int) := by
    rcases (unhide hT).own.2 with ⟨e, _⟩ | ⟨_, cap, _, e, _, _, hc, _⟩
    ·cases e
    ·injection e with _ e1 e2; omega
   have hmin : min (L : Int) 150 = (L : Int) := by omega
   have hYR := hide (unhide hT).own
   have hWr := hide (unhide hT).wro
   have hOk := hide (unhide hT).ok
   have hlt : ¬ ((150 : Int) < (L : Int)) := by omega
   have hle : (L : Int) ≤ 150 := by omega
   have htn : (L : Int).toNat = L := by omega
   have hge : (0 : Int) ≤ (L : Int) := by omega
   go_wp2_with fail
   go_ret
   have hl28 : ds.length ≤ 60 := by have := unhide hL; omega
   exact ⟨_, _, _, ds, rfl, unhide hYR, hl28, unhide hOk, unhide hWr⟩
  ·obtain ⟨k, rfl⟩ : ∃ j, k = j + 1 := ⟨k - 1, by omega⟩
   have hpos : (0 : Int) < ((k + 1 : Nat) : Int) := by omega
   go_wp2_with fail
   refine (txActD_any p a n c xs (K + 3 + 21 * (j : Int)) wr (unhide hT).src (by omega)).mono ?_
   rintro e w3 ⟨d, rfl, hok, hw, hs⟩
   obtain ⟨dk, di, dy, dt, dv⟩ := d
   unfold xv
   simp only
   have T2 := hide (((unhide hT).wrote hs hw).alloc (.cells #[.int .i64 dk, .int .i64 di, .string dy, .string dt, .string dv] 37))
   have kb := heap_alloc_new w3 (.cells #[.int .i64 dk, .int .i64 di, .string dy, .string dt, .string dv] 37)
   have hgb := (((unhide hT).wrote hs hw).own.lt g rfl).2
   clear hT hw hs
   go_upto_region 6 with fail
   generalize w3.alloc (.cells #[.int .i64 dk, .int .i64 di, .string dy, .string dt, .string dv] 37) = w4 at *
   generalize w3.heap.size = b5 at *
   obtain ⟨g2, c2, w6, hr, T3, hbl⟩ := (unhide T2).app (d := ⟨dk, di, dy, dt, dv⟩) (by have := unhide hL; omega) (fun e => by cases e) hok
   rw [unhide hL] at hr T3
   have kb6 := (hbl b5 (blk_lt kb) (fun e => by injection e with e; simp only at e; omega)).trans kb
   have k0 := (heap_at kb 0).1
   have k1 := (heap_at kb 1).1
   have k2 := (heap_at kb 2).1
   have k3 := (heap_at kb 3).1
   have k4 := (heap_at kb 4).1
   have T3h := hide T3
   have KB := hide kb6
   have hpb : p ≠ b5 := by have := (unhide T2).hp; have := (unhide T2).own.lt g rfl; omega
   have hL2 := hide (show (ds ++ [(⟨dk, di, dy, dt, dv⟩ : TxD)]).length = L + 1 by rw [List.length_append, unhide hL]; rfl)
   simp only at hr
   clear T2 T3 kb kb6 hbl hL
   go_upto_region 7 with (at_builtin; refine ky_wpApp rfl (.tmp 20) (.tmp 22) 23 rfl _ _ _ w6 rfl rfl hr ?_)
   clear k0 k1 k2 k3 k4 hr
   have k0 := (heap_at (unhide KB) 0).1
   have eK : K + 3 + 21 * (j : Int) + 18 + 3 = K + 3 + 21 * ((j + 1 : Nat) : Int) := by omega
   by_cases h6 : dk = 6
   ·have h6b : (dk == 6) = true := by simpa using h6
    subst h6
    go_wp2_with fail
    refine (chanceD_any p a n c xs (K + 3 + 21 * (j : Int) + 18) 2 w6 (unhide T3h).src (by omega) (by omega) (by omega)).mono ?_
    rintro e w7 ⟨x, rfl, hw, hs⟩
    rw [eK] at hs
    have T4 := hide ((unhide T3h).wrote hs hw)
    have kb7 := (hw.block b5 (fun e => hpb e.symm) (blk_lt (unhide KB))).trans (unhide KB)
    clear hw hs T3h k0 h6b
    cases x with
    | false =>
     clear kb7 KB
     go_wp2_with fail
     go_roundw
     case rel => exact ⟨k, j + 1, g2, c2, L + 1, _, rfl, by go_num, by omega, by omega, hL2, T4⟩
     case measure => simp [intOf] <;> omega
    | true =>
     have k1 := (heap_at kb7 1).1
     obtain ⟨g3, c3, w8, hr, T5, -⟩ := (unhide T4).app (d := ⟨1, di, ⟨#[]⟩, ⟨#[]⟩, ⟨#[]⟩⟩) (by have := unhide hL2; omega) (fun e => by cases e) hok
     rw [unhide hL2] at hr T5
     have T5h := hide T5
     have hL3 := hide (show ((ds ++ [(⟨6, di, dy, dt, dv⟩ : TxD)]) ++ [(⟨1, di, ⟨#[]⟩, ⟨#[]⟩, ⟨#[]⟩⟩ : TxD)]).length = L + 1 + 1 by rw [List.length_append, unhide hL2]; rfl)
     simp only at hr
     clear T5 T4 kb7 KB hL2
     go_wp2_with (at_builtin; refine ky_wpApp rfl (.tmp 31) (.tmp 35) 23 rfl _ _ _ w8 rfl rfl hr ?_)
     go_roundw
     case rel => exact ⟨k, j + 1, g3, c3, L + 1 + 1, _, rfl, by go_num, by omega, by omega, hL3, T5h⟩
     case measure => simp [intOf] <;> omega
   ·have h6b : (dk == 6) = false := by simpa using h6
    have T4 := hide (show XaSt w w6 p a n c xs (K + 3 + 21 * ((j + 1 : Nat) : Int)) (.slice (some ⟨g2, 0, none⟩) (L + 1) c2) (ds ++ [⟨dk, di, dy, dt, dv⟩]) from (unhide T3h).wrote ((unhide T3h).src.more (by omega)) (Wrote.refl _ _))
    clear T3h KB
    go_wp2_with fail
    go_roundw
    case rel => exact ⟨k, j + 1, g2, c2, L + 1, _, rfl, by go_num, by omega, by omega, hL2, T4⟩
    case measure => simp [intOf] <;> omega
set_option maxHeartbeats 1000000 in
theorem txActsOf_any (a : Option Addr) (n c : Nat) (xs : List Int) (w : World) (hr : Row w a n xs) (hby : ∀ i, i < n → 0 ≤ xs.getD i 0 ∧ xs.getD i 0 ≤ 255) (hn : n ≤ 1048576) :
  Calls Tryz.prog 6 #[.slice a n c] w fun e w' => ∃ g m' c' ds, e = .returned (.slice (some ⟨g, 0, none⟩) m' c') ∧ XOwns w' w.heap.size (.slice (some ⟨g, 0, none⟩) m' c') ds ∧ ds.length ≤ 60 ∧ (∀ d ∈ ds, okX d) ∧ Below w.heap.size w w' := by
 have R := hide hr
 have BY := hide hby
 clear hr hby
 go_enter Tryz.func6, Tryz.ntmps6
 go_wp2_with fail
 refine (source_any a n c xs w (unhide R) (unhide BY) hn).mono ?_
 rintro e w1 ⟨rfl, hs1, hb1, hz1⟩
 clear hz1
 go_wp2_with fail
 refine (txActsD_any w.heap.size a n c xs 0 w1 hs1 (by omega)).mono ?_
 rintro e w2 ⟨g, m', c', ds, rfl, hy, hl, hok, hw⟩
 have RES := hide (show ∃ g' m'' c'' ds, Ending.returned (Value.slice (some ⟨g, 0, none⟩) m' c') = .returned (.slice (some ⟨g', 0, none⟩) m'' c'') ∧ XOwns w2 w.heap.size (.slice (some ⟨g', 0, none⟩) m'' c'') ds ∧ ds.length ≤ 60 ∧ (∀ d ∈ ds, okX d) ∧ Below w.heap.size w w2 from ⟨g, m', c', ds, rfl, rs_base hy (hb1.size), hl, hok, xa_below hb1 hw⟩)
 clear hy hl hok hw hb1 hs1
 go_wp2_with fail
 go_ret
 exact unhide RES
end Go.Proofs.YtdnjgbckkmbmfaaGreat

namespace Go.Proofs.YtdnjgbckkmbmfaaGreat
open Go.RowKit Go.Maps

set_option maxHeartbeats 4000000 in
theorem implVersionAt_any (a : Option Addr) (n c : Nat) (ds : List VerD) (k : ByteArray) (t : Int) (w : World) (hn : n ≤ 1048576) (hr : VRow w a n ds) :
  Calls Tryz.prog 18 #[.slice a n c, .string k, .int .i64 t] w fun e w' => VaRes ds k t w e w' := by
 have LN := hide hr.1
 have R := hide hr
 clear hr
 have b0 : Below w.heap.size w (w.alloc (.cells #[.string ⟨#[]⟩, .int .i64 0, .string ⟨#[]⟩, .bool false] 43)) := (Below.refl _ _).alloc (Nat.le_refl _) _
 have KR := hide (heap_alloc_new w (.cells #[.string ⟨#[]⟩, .int .i64 0, .string ⟨#[]⟩, .bool false] 43))
 have zs : (w.alloc (.cells #[.string ⟨#[]⟩, .int .i64 0, .string ⟨#[]⟩, .bool false] 43)).heap.size = w.heap.size + 1 := by simp
 have q3 : w.heap.size ≤ w.heap.size := Nat.le_refl _
 by_cases h4 : n ≤ 4096
 ·have g4 : ¬ (4096 : Int) < (n : Int) := by omega
  by_cases h5 : k.size ≤ 65536
  ·have g5 : ¬ (65536 : Int) < (k.size : Int) := by omega
   have LL : ds.length ≤ 4096 ∧ k.size ≤ 65536 := ⟨by rw [unhide LN]; exact h4, h5⟩
   have RW := hide ((unhide R).below b0)
   go_enter Tryz.func18, Tryz.ntmps18
   go_wp2_with fail
   generalize w.alloc (.cells #[.string ⟨#[]⟩, .int .i64 0, .string ⟨#[]⟩, .bool false] 43) = W at *
   refine (listOK_any a n c ds W hn (unhide RW)).mono ?_
   rintro e w1 ⟨rfl, hb1⟩
   have B1 := b0.trans (hb1.mono b0.size)
   have KR1 := hide ((hb1.block w.heap.size (by omega)).trans (unhide KR))
   have R1 := hide ((unhide R).below B1)
   have s1 := hb1.size
   clear KR RW R hb1 b0
   cases hok : okVs ds with
   | false =>
    obtain ⟨y0, y1, y2, y3⟩ : w1.cell? ⟨w.heap.size, 0, none⟩ = some (.string ⟨#[]⟩) ∧ w1.cell? ⟨w.heap.size, 1, none⟩ = some (.int .i64 0) ∧ w1.cell? ⟨w.heap.size, 2, none⟩ = some (.string ⟨#[]⟩) ∧ w1.cell? ⟨w.heap.size, 3, none⟩ = some (.bool false) := ⟨(heap_at (unhide KR1) 0).1, (heap_at (unhide KR1) 1).1, (heap_at (unhide KR1) 2).1, (heap_at (unhide KR1) 3).1⟩
    have f0 := (heap_at (unhide KR1) 0).2
    have f1 := (heap_at (unhide KR1) 1).2
    have f2 := (heap_at (unhide KR1) 2).2
    have f3 := (heap_at (unhide KR1) 3).2
    go_wp2_with fail
    refine bodyPost_ret (v := .tuple #[vv noV, .int .i64 1]) (by unfold vv noV; simp [results, Tryz.results18, go_sem, *] <;> rfl) rfl ?_
    exact va_bad LL hok ((((B1.setCell (p := ⟨w.heap.size, 0, none⟩) q3 _).setCell (p := ⟨w.heap.size, 1, none⟩) q3 _).setCell (p := ⟨w.heap.size, 2, none⟩) q3 _).setCell (p := ⟨w.heap.size, 3, none⟩) q3 _)
   | true =>
    have HS := hide (show ∀ i (hi : i < ds.length), ds[i].k.size ≤ maxLen from fun i hi => by have := verK_small (okVs_ver hok hi); unfold maxLen; omega)
    go_wp2_with fail
    refine (historyOf_any a n c ds w1 h4 (unhide R1) (unhide HS)).mono ?_
    rintro e w2 ⟨f, rfl, hH, hb2⟩
    have B2 := B1.trans (hb2.mono B1.size)
    have KR2 := hide ((hb2.block w.heap.size (by omega)).trans (unhide KR1))
    have s2 := hb2.size
    clear KR1 R1 HS hb2
    go_wp2_with fail
    refine (viewAt_any w1.heap.size t w2).mono ?_
    rintro e w3 ⟨rfl, hw3⟩
    have b3 : Below w2.heap.size w2 w3 := by rw [hw3]; exact ((Below.refl _ _).alloc (Nat.le_refl _) _).alloc (by simp) _
    have c1 : w3.cell? ⟨w2.heap.size, 0, none⟩ = some (.map (some w1.heap.size)) := by rw [hw3]; simp [go_sem]
    have c2 : w3.cell? ⟨w2.heap.size + 1, 0, none⟩ = some (.int .i64 t) := by rw [hw3]; simp [go_sem]
    have B3 := B2.trans (b3.mono B2.size)
    have KR3 := hide ((b3.block w.heap.size (by omega)).trans (unhide KR2))
    have s3 := b3.size
    have VW := hide (view_any w2.heap.size (w2.heap.size + 1) w1.heap.size n (w1.heap.size + 1) f ds k t w3 (hH.below b3) hok LL.1 (by unfold maxLen; omega) c1 c2)
    clear KR2 hH hw3 b3 c1 c2
    go_wp2_with fail
    refine (unhide VW).mono ?_
    intro e w4 hv
    rcases hv with ⟨x, rfl, hva, hb4⟩ | ⟨x, rfl, hva, hb4⟩
    ·have B4 := B3.trans (hb4.mono B3.size)
     have KR4 := hide ((hb4.block w.heap.size (by omega)).trans (unhide KR3))
     have s4 := hb4.size
     clear KR3 hb4 VW
     obtain ⟨xk, xt, xv, xg⟩ := x
     unfold vv
     have bL : Below w4.heap.size w4 (w4.alloc (.cells #[.string xk, .int .i64 xt, .string xv, .bool xg] 43)) := (Below.refl _ _).alloc (Nat.le_refl _) _
     have B5 := B4.trans (bL.mono B4.size)
     have KR5 := hide ((bL.block w.heap.size (by omega)).trans (unhide KR4))
     clear KR4 bL B1 B2 B3
     obtain ⟨y0, y1, y2, y3⟩ : (w4.alloc (.cells #[.string xk, .int .i64 xt, .string xv, .bool xg] 43)).cell? ⟨w.heap.size, 0, none⟩ = some (.string ⟨#[]⟩) ∧ (w4.alloc (.cells #[.string xk, .int .i64 xt, .string xv, .bool xg] 43)).cell? ⟨w.heap.size, 1, none⟩ = some (.int .i64 0) ∧ (w4.alloc (.cells #[.string xk, .int .i64 xt, .string xv, .bool xg] 43)).cell? ⟨w.heap.size, 2, none⟩ = some (.string ⟨#[]⟩) ∧ (w4.alloc (.cells #[.string xk, .int .i64 xt, .string xv, .bool xg] 43)).cell? ⟨w.heap.size, 3, none⟩ = some (.bool false) := ⟨(heap_at (unhide KR5) 0).1, (heap_at (unhide KR5) 1).1, (heap_at (unhide KR5) 2).1, (heap_at (unhide KR5) 3).1⟩
     have f0 := (heap_at (unhide KR5) 0).2
     have f1 := (heap_at (unhide KR5) 1).2
     have f2 := (heap_at (unhide KR5) 2).2
     have f3 := (heap_at (unhide KR5) 3).2
     go_wp2_with fail
     refine bodyPost_ret (v := .tuple #[vv noV, .int .i64 5]) (by unfold vv noV; simp [results, Tryz.results18, go_sem, *] <;> rfl) rfl ?_
     exact va_none LL hok hva ((((B5.setCell (p := ⟨w.heap.size, 0, none⟩) q3 _).setCell (p := ⟨w.heap.size, 1, none⟩) q3 _).setCell (p := ⟨w.heap.size, 2, none⟩) q3 _).setCell (p := ⟨w.heap.size, 3, none⟩) q3 _)
    ·have B4 := B3.trans (hb4.mono B3.size)
     have KR4 := hide ((hb4.block w.heap.size (by omega)).trans (unhide KR3))
     have s4 := hb4.size
     clear KR3 hb4 VW
     obtain ⟨xk, xt, xv, xg⟩ := x
     unfold vv
     have bL : Below w4.heap.size w4 (w4.alloc (.cells #[.string xk, .int .i64 xt, .string xv, .bool xg] 43)) := (Below.refl _ _).alloc (Nat.le_refl _) _
     have B5 := B4.trans (bL.mono B4.size)
     have KR5 := hide ((bL.block w.heap.size (by omega)).trans (unhide KR4))
     clear KR4 bL B1 B2 B3
     obtain ⟨y0, y1, y2, y3⟩ : (w4.alloc (.cells #[.string xk, .int .i64 xt, .string xv, .bool xg] 43)).cell? ⟨w.heap.size, 0, none⟩ = some (.string ⟨#[]⟩) ∧ (w4.alloc (.cells #[.string xk, .int .i64 xt, .string xv, .bool xg] 43)).cell? ⟨w.heap.size, 1, none⟩ = some (.int .i64 0) ∧ (w4.alloc (.cells #[.string xk, .int .i64 xt, .string xv, .bool xg] 43)).cell? ⟨w.heap.size, 2, none⟩ = some (.string ⟨#[]⟩) ∧ (w4.alloc (.cells #[.string xk, .int .i64 xt, .string xv, .bool xg] 43)).cell? ⟨w.heap.size, 3, none⟩ = some (.bool false) := ⟨(heap_at (unhide KR5) 0).1, (heap_at (unhide KR5) 1).1, (heap_at (unhide KR5) 2).1, (heap_at (unhide KR5) 3).1⟩
     have f0 := (heap_at (unhide KR5) 0).2
     have f1 := (heap_at (unhide KR5) 1).2
     have f2 := (heap_at (unhide KR5) 2).2
     have f3 := (heap_at (unhide KR5) 3).2
     go_wp2_with fail
     refine bodyPost_ret (v := .tuple #[vv ⟨xk, xt, xv, xg⟩, .int .i64 0]) (by unfold vv; simp [results, Tryz.results18, go_sem, *] <;> rfl) rfl ?_
     exact va_some LL hok hva ((((B5.setCell (p := ⟨w.heap.size, 0, none⟩) q3 _).setCell (p := ⟨w.heap.size, 1, none⟩) q3 _).setCell (p := ⟨w.heap.size, 2, none⟩) q3 _).setCell (p := ⟨w.heap.size, 3, none⟩) q3 _)
  ·have g5 : (65536 : Int) < (k.size : Int) := by omega
   go_enter Tryz.func18, Tryz.ntmps18
   go_wp2_with fail
   refine bodyPost_ret (v := .tuple #[vv noV, .int .i64 2]) (by unfold vv noV; simp [results, Tryz.results18, go_sem, *] <;> rfl) rfl ?_
   exact va_long (by exact fun x => h5 x.2) b0
 ·have g4 : (4096 : Int) < (n : Int) := by omega
  go_enter Tryz.func18, Tryz.ntmps18
  go_wp2_with fail
  refine bodyPost_ret (v := .tuple #[vv noV, .int .i64 2]) (by unfold vv noV; simp [results, Tryz.results18, go_sem, *] <;> rfl) rfl ?_
  exact va_long (by exact fun x => h4 (by have := unhide LN; omega)) b0
end Go.Proofs.YtdnjgbckkmbmfaaGreat

namespace Go.Proofs.YtdnjgbckkmbmfaaGreat
open Go.RowKit

set_option maxHeartbeats 32000000 in
theorem fnLate_law (aa : Option Addr) (na ca : Nat) (zs1 : List Int) (ab0 : Option Addr) (nb cb : Nat) (zs2 : List Int) (w : World) (h1 : IsRow .u8 w aa na ca zs1) (h2 : IsRow .u8 w ab0 nb cb zs2) :
  Calls Tryz.prog 4 #[.slice aa na ca, .slice ab0 nb cb] w fun e w' => e = .returned (.bool true) ∧ Below w.heap.size w w' := by
 obtain ⟨hr1, hm1, _⟩ := row_of_isRow h1
 obtain ⟨hr2, hm2, hbb⟩ := row_of_isRow h2
 have by1 := hide (bytes_of_isRow h1)
 have by2 := hide (bytes_of_isRow h2)
 clear h1 h2
 unfold maxLen at hm1 hm2
 by_cases hbig : 1048576 < na
 ·clear hr1 by1 hr2 by2 hbb
  go_enter Tryz.func4, Tryz.ntmps4
  go_wp2_with fail
  go_ret
  exact ⟨rfl, Below.refl _ _⟩
 have hn1 : na ≤ 1048576 := by omega
 by_cases hbig2 : 1048576 < nb
 ·clear hr1 by1 hr2 by2 hbb
  go_enter Tryz.func4, Tryz.ntmps4
  go_wp2_with fail
  go_ret
  exact ⟨rfl, Below.refl _ _⟩
 have hn2 : nb ≤ 1048576 := by omega
 clear hm1 hm2 hbig hbig2
 generalize zs1.take na = xs1 at *
 generalize zs2.take nb = xs2 at *
 have R1 := hide hr1
 have R2 := hide (show ∀ u, Below w.heap.size w u → Row u ab0 nb xs2 from fun u hu => ⟨hr2.1, fun i hi => by
  obtain ⟨b, off, e, hc⟩ := hr2.2 i hi
  exact ⟨b, off, e, (hu.cell (p := ⟨b, off + i, none⟩) (cell_lt hc)).trans hc⟩⟩)
 clear hr1 hr2 hbb
 go_enter Tryz.func4, Tryz.ntmps4
 go_wp2_with fail
 refine (txActsOf_any aa na ca xs1 w (unhide R1) (unhide by1) hn1).mono ?_
 rintro e w1 ⟨g, m, cm, ds, rfl, hX, hd60, -, hb1⟩
 have XR := xrow_of_owns hX
 have hm60 : m ≤ 60 := by have := XR.1; omega
 have TR := hide (specTxRun_any (some ⟨g, 0, none⟩) m cm ds w1 XR (by omega))
 have B1 := hide hb1
 clear hX hb1 R1 by1 XR
 go_wp2_with fail
 refine (unhide TR).mono ?_
 rintro e w2 ⟨⟨la, ln, lc⟩, ⟨fa, fn, fc⟩, ⟨sa, sn, sc⟩, hs, ⟨qa, qn, qc⟩, zs, rfl, hO, -, -, hb2⟩
 have eV : txV ds = (runV ds).1 := by unfold txV; rw [if_neg (by omega)]
 have eC : txC ds = 0 := by unfold txC; rw [if_neg (by omega), if_neg (by omega)]
 rw [eV] at hO
 rw [eV, eC]
 clear eV eC TR
 have RV : RunV (runV ds).1 60 := by
  have := runV_ok ds ds.length (Nat.le_refl _)
  rw [List.take_length] at this
  exact this.more hd60
 generalize (runV ds).1 = d at *
 have HRV := hide RV
 have hnx := RV.nx
 unfold vzC
 simp only
 obtain ⟨W, hW⟩ : ∃ W, W = w2.alloc (.cells #[.int .i64 d.next, .slice la ln lc, .slice fa fn fc, .slice sa sn sc] 29) := ⟨_, rfl⟩
 have bW : Below w2.heap.size w2 W := by rw [hW]; exact (Below.refl _ _).alloc (Nat.le_refl _) _
 have kW : W.heap[w2.heap.size]? = some (.cells #[.int .i64 d.next, .slice la ln lc, .slice fa fn fc, .slice sa sn sc] 29 (0, 0)) := by rw [hW]; exact heap_alloc_new _ _
 have OW := hide (hO.below bW)
 have KW := hide kW
 have BW := hide (hb2.trans (bW.mono hb2.size))
 have HVG := hide hb2.size
 clear hO bW kW hb2 hd60 hm60 RV
 go_wp2_with fail
 rw [← hW]
 clear hW
 generalize w2.heap.size = vb at *
 refine (keyOfD_any ab0 nb cb xs2 W (unhide R2 W ((unhide B1).trans ((unhide BW).mono (unhide B1).size))) (unhide by2) hn2).mono ?_
 rintro e w3 ⟨key, rfl, hkey, hb3⟩
 have HKEY := hide hkey
 have hks : key.size ≤ 40 := by unfold keyK at hkey; simp only [decide_eq_true_eq] at hkey; omega
 have XL := xlit w3 w1.heap.size (Nat.le_trans (unhide BW).size hb3.size) (ltA key) #[.int .i64 1, .int .i64 3, .string ⟨#[]⟩, .string ⟨#[]⟩, .string ⟨#[]⟩, .int .i64 4, .int .i64 3, .string key, .string ⟨#[]⟩, .string ⟨#[120]⟩] rfl (show 2 ≤ 10 by decide)
 obtain ⟨V, hV⟩ : ∃ V, V = w3.alloc (.cells #[.int .i64 1, .int .i64 3, .string ⟨#[]⟩, .string ⟨#[]⟩, .string ⟨#[]⟩, .int .i64 4, .int .i64 3, .string key, .string ⟨#[]⟩, .string ⟨#[120]⟩] 37) := ⟨_, rfl⟩
 rw [← hV] at XL
 have bV : Below W.heap.size W V := hb3.trans (by rw [hV]; exact (Below.refl _ _).alloc hb3.size _)
 have LS0 := hide (show LvSt w1 V vb w3.heap.size ⟨la, ln, lc⟩ ⟨fa, fn, fc⟩ ⟨sa, sn, sc⟩ hs d (ltA key) from ⟨(unhide BW).trans (bV.mono (unhide BW).size), (unhide OW).below bV, (bV.block vb (blk_lt (unhide KW))).trans (unhide KW), unhide HVG, XL⟩)
 clear XL bV hb3 OW KW R2 by2 hkey
 go_upto_region 6 with fail
 rw [← hV]
 clear hV
 generalize w3.heap.size = ab at *
 have BF := hide (fun (u : World) (hu : Below w1.heap.size w1 u) => (unhide B1).trans (hu.mono (unhide B1).size))
 have kb := (unhide LS0).box
 unfold vzC at kb
 simp only at kb
 have v0 := (heap_at kb 0).1
 have v3 := (heap_at kb 3).1
 simp only [List.getElem?_toArray, List.getElem?_cons_zero, List.getElem?_cons_succ] at v0 v3
 have hwn : IntKind.i64.wrap (d.next + 2) = d.next + 2 := by rw [IntKind.wrap_i64]; omega
 have hs4 : hs.length = 4 := by
  have h1 := (unhide LS0).own.ss
  have h2 := (unhide HRV).ses
  have h3 := congrArg List.length h1
  rw [List.length_map, h2] at h3
  exact h3
 by_cases hfull : 1000 < d.next + 2
 ·have BE := hide (unhide BF V (unhide LS0).bel)
  clear kb v3 LS0
  go_wp2_with fail
  go_ret
  exact ⟨rfl, unhide BE⟩
 obtain ⟨gs, hgs, hsn, -, hgl, c9, -, -, -, hd3, hx3⟩ := (unhide LS0).own.sesAt (i := 3) (by omega)
 simp only at hgs hsn
 subst hgs
 have hsnI : (3 : Int) < (sn : Int) := by omega
 clear hsn
 have hx3' : d.ses[3]? = some hs[3].X := by rw [List.getElem?_eq_getElem hd3, hx3]
 cases ho : hs[3].X.o with
 | true =>
  rw [ho] at c9
  have BE := hide (unhide BF V (unhide LS0).bel)
  clear kb LS0
  go_wp2_with fail
  go_ret
  exact ⟨rfl, unhide BE⟩
 | false =>
 rw [ho] at c9
 have hn2' : d.next + 2 ≤ 1000 := by omega
 have P1 := hide (lt_1 (unhide HRV) hn2' hx3' ho)
 have P2 := hide (lt_2 (unhide HRV) (unhide HKEY))
 have P3 := hide (lt_3 (unhide HRV) key)
 have P4 := hide (lt_4 (unhide HRV) hn2' key)
 have P5 := hide (lt_5 (unhide HRV) (by decide) key)
 have P6 := hide (lt_6 (unhide HRV) key)
 have PV := hide (lt_ver (unhide HRV) key)
 clear ho hx3 hd3 hx3' hs4 kb hfull
 go_wp2_with fail
 clear v0 v3 c9 hwn hsnI
 have HR0 := hide (show RunV d (60 + 0) from unhide HRV)
 go_loopw [10] (fun iv wr => ∃ (j : Nat) (l f s : Sl) (hs : List SeH) (D : VsD), iv = .int .i64 j ∧ ((j = 0 ∧ D = d) ∨ (j = 1 ∧ D = lt1 d) ∨ (j = 2 ∧ D = lt2 d key)) ∧ Hid (LvSt w1 wr vb ab l f s hs D (ltA key)) ∧ Hid (RunV D (60 + j))) (fun iv _ => 2 - (intOf iv).toNat)
 case atStart => exact ⟨0, _, _, _, hs, d, rfl, .inl ⟨rfl, rfl⟩, LS0, HR0⟩
 case round =>
  clear LS0 HR0
  obtain ⟨j, ⟨la1, ln1, lc1⟩, ⟨fa1, fn1, fc1⟩, ⟨sa1, sn1, sc1⟩, hs1, dk, rfl, hjd, LS, HR⟩ := hrel
  by_cases hj2 : j = 2
  case neg =>
   have hja : j < (ltA key).length := by show j < 2; omega
   have hj2I : (j : Int) < 2 := by omega
   have hszj : ((ltA key)[j]).key.size ≤ 65536 ∧ ((ltA key)[j]).to.size ≤ 65536 ∧ ((ltA key)[j]).val.size ≤ 65536 := by
    match j, hja with
    | 0, _ => exact ⟨by show (⟨#[]⟩ : ByteArray).size ≤ 65536; decide, by show (⟨#[]⟩ : ByteArray).size ≤ 65536; decide, by show (⟨#[]⟩ : ByteArray).size ≤ 65536; decide⟩
    | 1, _ => exact ⟨by show key.size ≤ 65536; omega, by show (⟨#[]⟩ : ByteArray).size ≤ 65536; decide, by show exV.size ≤ 65536; decide⟩
   obtain ⟨pp, hpp⟩ : ∃ p, p = stepV dk (ltA key)[j] := ⟨_, rfl⟩
   have HPP := hide (show pp.2.code = 0 ∧ ((j + 1 = 0 ∧ pp.1 = d) ∨ (j + 1 = 1 ∧ pp.1 = lt1 d) ∨ (j + 1 = 2 ∧ pp.1 = lt2 d key)) by
    rcases hjd with ⟨hj0, hD⟩ | ⟨hj0, hD⟩ | ⟨h, -⟩
    ·subst hj0
     have e : pp = (lt1 d, repV 0 d.next) := hpp.trans (by rw [hD]; exact unhide P1)
     rw [e]
     exact ⟨rfl, .inr (.inl ⟨rfl, rfl⟩)⟩
    ·subst hj0
     have e : pp = (lt2 d key, repV 0 d.next) := hpp.trans (by rw [hD]; exact unhide P2)
     rw [e]
     exact ⟨rfl, .inr (.inr ⟨rfl, rfl⟩)⟩
    ·exact absurd h hj2)
   have HRN := hide (show RunV pp.1 (60 + (j + 1)) by rw [hpp]; exact (unhide HR).step _)
   have HP := hide hpp.symm
   clear hpp hjd
   have ls := unhide LS
   have q0 := (heap_at ls.box 0).1
   have q1 := (heap_at ls.box 1).1
   have q2 := (heap_at ls.box 2).1
   have q3 := (heap_at ls.box 3).1
   have hvb := blk_lt ls.box
   obtain ⟨xb0, xo0, hxe, d0, d1, d2, d3, d4⟩ := (xrow_of_owns ls.acts).2 j hja
   injection hxe with hxe
   injection hxe with hx1 hx2 _
   subst hx1 hx2
   simp only [Nat.zero_add] at d0 d1 d2 d3 d4
   have hab := cell_lt d0
   have hwrW := ls.bel.size
   have CS := hide (fun (u : World) (hu : Below wr.heap.size wr u) => implTxStep_any dk _ (ltA key)[j] ⟨la1, ln1, lc1⟩ ⟨fa1, fn1, fc1⟩ ⟨sa1, sn1, sc1⟩ hs1 u (ls.own.reads.below hu) (cap_of_owns (s := ⟨sa1, sn1, sc1⟩) ls.own.so.row).2 (unhide HR) (by omega) hszj)
   generalize (ltA key)[j] = ac at *
   obtain ⟨xk, xs, xa, xb, xc⟩ := ac
   unfold vzC xv at CS
   simp only [vzC, List.getElem?_toArray, List.getElem?_cons_zero, List.getElem?_cons_succ] at d0 d1 d2 d3 d4 CS q0 q1 q2 q3
   have T00 := hide (show RgL w1 wr wr.drew pp none none none from ⟨(Below.refl _ _).drew, fun _ _ _ _ _ e => (by cases e), fun _ e => (by cases e), fun _ e => (by cases e)⟩)
   have SK := hide (show ∀ u, Below wr.heap.size wr u → (fun u : World => u.cell? ⟨vb, 0, none⟩ = some (.int .i64 dk.next) ∧ u.cell? ⟨vb, 1, none⟩ = some (.slice la1 ln1 lc1) ∧ u.cell? ⟨vb, 2, none⟩ = some (.slice fa1 fn1 fc1) ∧ u.cell? ⟨vb, 3, none⟩ = some (.slice sa1 sn1 sc1) ∧ u.cell? ⟨ab, j * 5, none⟩ = some (.int .i64 xk) ∧ u.cell? ⟨ab, j * 5 + 1, none⟩ = some (.int .i64 xs) ∧ u.cell? ⟨ab, j * 5 + 2, none⟩ = some (.string xa) ∧ u.cell? ⟨ab, j * 5 + 3, none⟩ = some (.string xb) ∧ u.cell? ⟨ab, j * 5 + 4, none⟩ = some (.string xc)) u from fun u hu => ⟨(hu.cell (p := ⟨vb, 0, none⟩) hvb).trans q0, (hu.cell (p := ⟨vb, 1, none⟩) hvb).trans q1, (hu.cell (p := ⟨vb, 2, none⟩) hvb).trans q2, (hu.cell (p := ⟨vb, 3, none⟩) hvb).trans q3, (hu.cell (p := ⟨ab, j * 5, none⟩) hab).trans d0, (hu.cell (p := ⟨ab, j * 5 + 1, none⟩) hab).trans d1, (hu.cell (p := ⟨ab, j * 5 + 2, none⟩) hab).trans d2, (hu.cell (p := ⟨ab, j * 5 + 3, none⟩) hab).trans d3, (hu.cell (p := ⟨ab, j * 5 + 4, none⟩) hab).trans d4⟩)
   clear d0 d1 d2 d3 d4 q0 q1 q2 q3 ls
   go_upto_region 11 with fail
   go_cut [11, 12, 13] (fun v8 v9 vc wc => ∃ (b8 b9 : Nat) (l' f' s' : Sl) (hs' : List SeH) (r : Sl), v8 = .pointer (some ⟨b8, 0, none⟩) ∧ v9 = .pointer (some ⟨b9, 0, none⟩) ∧ vc = .int .i64 0 ∧ Hid (wc.heap[b8]? = some (.cells #[.int .i64 pp.1.next, .slice l'.a l'.n l'.c, .slice f'.a f'.n f'.c, .slice s'.a s'.n s'.c] 29 (0, 0))) ∧ Hid (wc.heap[b9]? = some (.cells #[.int .i64 pp.2.code, .int .i64 pp.2.time, .string pp.2.val, .slice r.a r.n r.c] 40 (0, 0))) ∧ Hid (VzOwn wc w1.heap.size l' f' s' hs' pp.1) ∧ Hid (Below wr.heap.size wr wc) ∧ wr.heap.size ≤ b8 ∧ wr.heap.size ≤ b9)
   case first =>
    refine wp_region_held_drew (S := (fun u : World => u.cell? ⟨vb, 0, none⟩ = some (.int .i64 dk.next) ∧ u.cell? ⟨vb, 1, none⟩ = some (.slice la1 ln1 lc1) ∧ u.cell? ⟨vb, 2, none⟩ = some (.slice fa1 fn1 fc1) ∧ u.cell? ⟨vb, 3, none⟩ = some (.slice sa1 sn1 sc1) ∧ u.cell? ⟨ab, j * 5, none⟩ = some (.int .i64 xk) ∧ u.cell? ⟨ab, j * 5 + 1, none⟩ = some (.int .i64 xs) ∧ u.cell? ⟨ab, j * 5 + 2, none⟩ = some (.string xa) ∧ u.cell? ⟨ab, j * 5 + 3, none⟩ = some (.string xb) ∧ u.cell? ⟨ab, j * 5 + 4, none⟩ = some (.string xc))) (by kernel_rfl) (unhide SK _ (unhide T00).bel) (fun hHeld => ?_)
    have Ts := T00
    clear T00
    generalize wr.drew = us at *
    refine tk 0 63 rfl rfl hHeld ?_
    simp only [Act.put, lA, lB, lC]
    refine tk 1 64 rfl rfl hHeld ?_
    simp only [Act.put, lA, lB, lC]
    refine tk 2 65 rfl rfl hHeld ?_
    simp only [Act.put, lA, lB, lC]
    refine tk 3 66 rfl rfl hHeld ?_
    simp only [Act.put, lA, lB, lC]
    refine tk 4 67 rfl rfl hHeld ?_
    simp only [Act.put, lA, lB, lC]
    refine wpAnyH_ready (rs := [5, 10, 11]) (by kernel_rfl) (by simp) ?_
    refine AllReadyH.cons rfl (fun K hK => ?_) (AllReadyH.cons rfl (fun K hK => ?_) (AllReadyH.cons rfl (fun K hK => ?_) AllReadyH.nil))
    ·go_simp
     refine (unhide CS _ (unhide Ts).bel).mono ?_
     intro e u5 hst
     obtain ⟨l', f', s', hs', r, rfl, hq⟩ := (unhide Ts).call hwrW (unhide HP) hst
     have T5 := hide hq
     clear hq hst
     refine hK.out _ _ (unhide SK _ (unhide T5).bel) (fun hHeld => ?_)
     clear hK K
     refine tk 6 62 rfl rfl hHeld ?_
     simp only [Act.put, lA, lB, lC]
     refine tk 7 69 rfl rfl hHeld ?_
     simp only [Act.put, lA, lB, lC]
     refine tk 8 70 rfl rfl hHeld ?_
     simp only [Act.put, lA, lB, lC]
     refine tk 9 71 rfl rfl hHeld ?_
     simp only [Act.put, lA, lB, lC]
     refine wpAnyH_ready (rs := [10, 11]) (by kernel_rfl) (by simp) ?_
     refine AllReadyH.cons rfl (fun K hK => ?_) (AllReadyH.cons rfl (fun K hK => ?_) AllReadyH.nil)
     ·have T5_10 := hide (unhide T5).lit8
      go_simp
      generalize u5.alloc (.cells #[.int .i64 0, .slice none 0 0, .slice none 0 0, .slice none 0 0] 29) = u5_10 at *
      generalize u5.heap.size = b8 at *
      refine hK.out _ _ (unhide SK _ (unhide T5_10).bel) (fun hHeld => ?_)
      clear hK K
      refine rd [11] (.cons rfl (fun K hK => ?_) .nil)
      have T5_10_11 := hide (unhide T5_10).lit9
      go_simp
      generalize u5_10.alloc (.cells #[.int .i64 0, .int .i64 0, .string ⟨#[]⟩, .slice none 0 0] 40) = u5_10_11 at *
      generalize u5_10.heap.size = b9 at *
      refine hK.out _ _ (unhide SK _ (unhide T5_10_11).bel) (fun hHeld => ?_)
      clear hK K
      refine rd [12] (.cons rfl (fun K hK => ?_) .nil)
      have hOw := (unhide T5_10_11).r l' f' s' hs' r rfl
      obtain ⟨h8, k8⟩ := (unhide T5_10_11).e8 b8 rfl
      obtain ⟨h9, k9⟩ := (unhide T5_10_11).e9 b9 rfl
      have c0 := (heap_at k8 0).1
      have c1 := (heap_at k8 1).1
      have c2 := (heap_at k8 2).1
      have c3 := (heap_at k8 3).1
      have cf0 := (heap_at k8 0).2
      have cf1 := (heap_at k8 1).2
      have cf2 := (heap_at k8 2).2
      have cf3 := (heap_at k8 3).2
      have h89 : b9 ≠ b8 := fun e => by rw [e, k8] at k9; injection k9 with k9; injection k9 with _ k9 _; exact absurd k9 (by decide)
      have hw : WrB (fun i => i = b8) u5_10_11 ((((u5_10_11.setCell ⟨b8, 0, none⟩ (.int .i64 pp.1.next)).setCell ⟨b8, 1, none⟩ (.slice l'.a l'.n l'.c)).setCell ⟨b8, 2, none⟩ (.slice f'.a f'.n f'.c)).setCell ⟨b8, 3, none⟩ (.slice s'.a s'.n s'.c)) := sv4_wr u5_10_11 b8 (.int .i64 pp.1.next) (.slice l'.a l'.n l'.c) (.slice f'.a f'.n f'.c) (.slice s'.a s'.n s'.c)
      have Q8 := hide (show ((((u5_10_11.setCell ⟨b8, 0, none⟩ (.int .i64 pp.1.next)).setCell ⟨b8, 1, none⟩ (.slice l'.a l'.n l'.c)).setCell ⟨b8, 2, none⟩ (.slice f'.a f'.n f'.c)).setCell ⟨b8, 3, none⟩ (.slice s'.a s'.n s'.c)).heap[b8]? = some (.cells #[.int .i64 pp.1.next, .slice l'.a l'.n l'.c, .slice f'.a f'.n f'.c, .slice s'.a s'.n s'.c] 29 (0, 0)) from sv4_heap k8 (.int .i64 pp.1.next) (.slice l'.a l'.n l'.c) (.slice f'.a f'.n f'.c) (.slice s'.a s'.n s'.c))
      have Q9 := hide (show ((((u5_10_11.setCell ⟨b8, 0, none⟩ (.int .i64 pp.1.next)).setCell ⟨b8, 1, none⟩ (.slice l'.a l'.n l'.c)).setCell ⟨b8, 2, none⟩ (.slice f'.a f'.n f'.c)).setCell ⟨b8, 3, none⟩ (.slice s'.a s'.n s'.c)).heap[b9]? = some (.cells #[.int .i64 0, .int .i64 0, .string ⟨#[]⟩, .slice none 0 0] 40 (0, 0)) from (hw.block b9 (blk_lt k9) h89).trans k9)
      have QO := hide (show VzOwn ((((u5_10_11.setCell ⟨b8, 0, none⟩ (.int .i64 pp.1.next)).setCell ⟨b8, 1, none⟩ (.slice l'.a l'.n l'.c)).setCell ⟨b8, 2, none⟩ (.slice f'.a f'.n f'.c)).setCell ⟨b8, 3, none⟩ (.slice s'.a s'.n s'.c)) w1.heap.size l' f' s' hs' pp.1 from hOw.box k8 (by decide) (by decide) (by decide) hw)
      have QB := hide (show Below wr.heap.size wr ((((u5_10_11.setCell ⟨b8, 0, none⟩ (.int .i64 pp.1.next)).setCell ⟨b8, 1, none⟩ (.slice l'.a l'.n l'.c)).setCell ⟨b8, 2, none⟩ (.slice f'.a f'.n f'.c)).setCell ⟨b8, 3, none⟩ (.slice s'.a s'.n s'.c)) from (unhide T5_10_11).bel.trans (WrB.below hw (fun i e => by rw [e]; exact h8) (unhide T5_10_11).bel.size))
      clear hw hOw k8 k9
      go_simp
      refine hK.out _ _ (unhide SK _ (unhide QB)) (fun hHeld => ?_)
      clear hK K
      clear c0 cf0 c1 cf1 c2 cf2 c3 cf3
      generalize ((((u5_10_11.setCell ⟨b8, 0, none⟩ (.int .i64 pp.1.next)).setCell ⟨b8, 1, none⟩ (.slice l'.a l'.n l'.c)).setCell ⟨b8, 2, none⟩ (.slice f'.a f'.n f'.c)).setCell ⟨b8, 3, none⟩ (.slice s'.a s'.n s'.c)) = ux at *
      refine rd [13] (.cons rfl (fun K hK => ?_) .nil)
      have c0 := (heap_at (unhide Q9) 0).1
      have c1 := (heap_at (unhide Q9) 1).1
      have c2 := (heap_at (unhide Q9) 2).1
      have c3 := (heap_at (unhide Q9) 3).1
      have cf0 := (heap_at (unhide Q9) 0).2
      have cf1 := (heap_at (unhide Q9) 1).2
      have cf2 := (heap_at (unhide Q9) 2).2
      have cf3 := (heap_at (unhide Q9) 3).2
      have hw : WrB (fun i => i = b9) ux ((((ux.setCell ⟨b9, 0, none⟩ (.int .i64 pp.2.code)).setCell ⟨b9, 1, none⟩ (.int .i64 pp.2.time)).setCell ⟨b9, 2, none⟩ (.string pp.2.val)).setCell ⟨b9, 3, none⟩ (.slice r.a r.n r.c)) := sv4_wr ux b9 (.int .i64 pp.2.code) (.int .i64 pp.2.time) (.string pp.2.val) (.slice r.a r.n r.c)
      have P9 := hide (show ((((ux.setCell ⟨b9, 0, none⟩ (.int .i64 pp.2.code)).setCell ⟨b9, 1, none⟩ (.int .i64 pp.2.time)).setCell ⟨b9, 2, none⟩ (.string pp.2.val)).setCell ⟨b9, 3, none⟩ (.slice r.a r.n r.c)).heap[b9]? = some (.cells #[.int .i64 pp.2.code, .int .i64 pp.2.time, .string pp.2.val, .slice r.a r.n r.c] 40 (0, 0)) from sv4_heap (unhide Q9) (.int .i64 pp.2.code) (.int .i64 pp.2.time) (.string pp.2.val) (.slice r.a r.n r.c))
      have P8 := hide (show ((((ux.setCell ⟨b9, 0, none⟩ (.int .i64 pp.2.code)).setCell ⟨b9, 1, none⟩ (.int .i64 pp.2.time)).setCell ⟨b9, 2, none⟩ (.string pp.2.val)).setCell ⟨b9, 3, none⟩ (.slice r.a r.n r.c)).heap[b8]? = some (.cells #[.int .i64 pp.1.next, .slice l'.a l'.n l'.c, .slice f'.a f'.n f'.c, .slice s'.a s'.n s'.c] 29 (0, 0)) from (hw.block b8 (blk_lt (unhide Q8)) (fun e => h89 e.symm)).trans (unhide Q8))
      have PO := hide (show VzOwn ((((ux.setCell ⟨b9, 0, none⟩ (.int .i64 pp.2.code)).setCell ⟨b9, 1, none⟩ (.int .i64 pp.2.time)).setCell ⟨b9, 2, none⟩ (.string pp.2.val)).setCell ⟨b9, 3, none⟩ (.slice r.a r.n r.c)) w1.heap.size l' f' s' hs' pp.1 from (unhide QO).box (unhide Q9) (by decide) (by decide) (by decide) hw)
      have PB := hide (show Below wr.heap.size wr ((((ux.setCell ⟨b9, 0, none⟩ (.int .i64 pp.2.code)).setCell ⟨b9, 1, none⟩ (.int .i64 pp.2.time)).setCell ⟨b9, 2, none⟩ (.string pp.2.val)).setCell ⟨b9, 3, none⟩ (.slice r.a r.n r.c)) from (unhide QB).trans (WrB.below hw (fun i e => by rw [e]; exact h9) (unhide QB).size))
      clear hw
      go_simp
      refine hK.out _ _ (unhide SK _ (unhide PB)) (fun hHeld => ?_)
      clear hK K
      refine tk 14 13 rfl rfl hHeld ?_
      simp only [Act.put, lA, lB, lC]
      refine wpAnyH_done (by kernel_rfl) ?_ _
      clear hHeld SK
      go_wp2_with fail
      go_meet
      case rel => exact ⟨b8, b9, l', f', s', hs', r, rfl, rfl, rfl, P8, P9, PO, PB, h8, h9⟩
     ·have T5_11 := hide (unhide T5).lit9
      go_simp
      generalize u5.alloc (.cells #[.int .i64 0, .int .i64 0, .string ⟨#[]⟩, .slice none 0 0] 40) = u5_11 at *
      generalize u5.heap.size = b9 at *
      refine hK.out _ _ (unhide SK _ (unhide T5_11).bel) (fun hHeld => ?_)
      clear hK K
      refine rd [10] (.cons rfl (fun K hK => ?_) .nil)
      have T5_11_10 := hide (unhide T5_11).lit8
      go_simp
      generalize u5_11.alloc (.cells #[.int .i64 0, .slice none 0 0, .slice none 0 0, .slice none 0 0] 29) = u5_11_10 at *
      generalize u5_11.heap.size = b8 at *
      refine hK.out _ _ (unhide SK _ (unhide T5_11_10).bel) (fun hHeld => ?_)
      clear hK K
      refine rd [12] (.cons rfl (fun K hK => ?_) .nil)
      have hOw := (unhide T5_11_10).r l' f' s' hs' r rfl
      obtain ⟨h8, k8⟩ := (unhide T5_11_10).e8 b8 rfl
      obtain ⟨h9, k9⟩ := (unhide T5_11_10).e9 b9 rfl
      have c0 := (heap_at k8 0).1
      have c1 := (heap_at k8 1).1
      have c2 := (heap_at k8 2).1
      have c3 := (heap_at k8 3).1
      have cf0 := (heap_at k8 0).2
      have cf1 := (heap_at k8 1).2
      have cf2 := (heap_at k8 2).2
      have cf3 := (heap_at k8 3).2
      have h89 : b9 ≠ b8 := fun e => by rw [e, k8] at k9; injection k9 with k9; injection k9 with _ k9 _; exact absurd k9 (by decide)
      have hw : WrB (fun i => i = b8) u5_11_10 ((((u5_11_10.setCell ⟨b8, 0, none⟩ (.int .i64 pp.1.next)).setCell ⟨b8, 1, none⟩ (.slice l'.a l'.n l'.c)).setCell ⟨b8, 2, none⟩ (.slice f'.a f'.n f'.c)).setCell ⟨b8, 3, none⟩ (.slice s'.a s'.n s'.c)) := sv4_wr u5_11_10 b8 (.int .i64 pp.1.next) (.slice l'.a l'.n l'.c) (.slice f'.a f'.n f'.c) (.slice s'.a s'.n s'.c)
      have Q8 := hide (show ((((u5_11_10.setCell ⟨b8, 0, none⟩ (.int .i64 pp.1.next)).setCell ⟨b8, 1, none⟩ (.slice l'.a l'.n l'.c)).setCell ⟨b8, 2, none⟩ (.slice f'.a f'.n f'.c)).setCell ⟨b8, 3, none⟩ (.slice s'.a s'.n s'.c)).heap[b8]? = some (.cells #[.int .i64 pp.1.next, .slice l'.a l'.n l'.c, .slice f'.a f'.n f'.c, .slice s'.a s'.n s'.c] 29 (0, 0)) from sv4_heap k8 (.int .i64 pp.1.next) (.slice l'.a l'.n l'.c) (.slice f'.a f'.n f'.c) (.slice s'.a s'.n s'.c))
      have Q9 := hide (show ((((u5_11_10.setCell ⟨b8, 0, none⟩ (.int .i64 pp.1.next)).setCell ⟨b8, 1, none⟩ (.slice l'.a l'.n l'.c)).setCell ⟨b8, 2, none⟩ (.slice f'.a f'.n f'.c)).setCell ⟨b8, 3, none⟩ (.slice s'.a s'.n s'.c)).heap[b9]? = some (.cells #[.int .i64 0, .int .i64 0, .string ⟨#[]⟩, .slice none 0 0] 40 (0, 0)) from (hw.block b9 (blk_lt k9) h89).trans k9)
      have QO := hide (show VzOwn ((((u5_11_10.setCell ⟨b8, 0, none⟩ (.int .i64 pp.1.next)).setCell ⟨b8, 1, none⟩ (.slice l'.a l'.n l'.c)).setCell ⟨b8, 2, none⟩ (.slice f'.a f'.n f'.c)).setCell ⟨b8, 3, none⟩ (.slice s'.a s'.n s'.c)) w1.heap.size l' f' s' hs' pp.1 from hOw.box k8 (by decide) (by decide) (by decide) hw)
      have QB := hide (show Below wr.heap.size wr ((((u5_11_10.setCell ⟨b8, 0, none⟩ (.int .i64 pp.1.next)).setCell ⟨b8, 1, none⟩ (.slice l'.a l'.n l'.c)).setCell ⟨b8, 2, none⟩ (.slice f'.a f'.n f'.c)).setCell ⟨b8, 3, none⟩ (.slice s'.a s'.n s'.c)) from (unhide T5_11_10).bel.trans (WrB.below hw (fun i e => by rw [e]; exact h8) (unhide T5_11_10).bel.size))
      clear hw hOw k8 k9
      go_simp
      refine hK.out _ _ (unhide SK _ (unhide QB)) (fun hHeld => ?_)
      clear hK K
      clear c0 cf0 c1 cf1 c2 cf2 c3 cf3
      generalize ((((u5_11_10.setCell ⟨b8, 0, none⟩ (.int .i64 pp.1.next)).setCell ⟨b8, 1, none⟩ (.slice l'.a l'.n l'.c)).setCell ⟨b8, 2, none⟩ (.slice f'.a f'.n f'.c)).setCell ⟨b8, 3, none⟩ (.slice s'.a s'.n s'.c)) = ux at *
      refine rd [13] (.cons rfl (fun K hK => ?_) .nil)
      have c0 := (heap_at (unhide Q9) 0).1
      have c1 := (heap_at (unhide Q9) 1).1
      have c2 := (heap_at (unhide Q9) 2).1
      have c3 := (heap_at (unhide Q9) 3).1
      have cf0 := (heap_at (unhide Q9) 0).2
      have cf1 := (heap_at (unhide Q9) 1).2
      have cf2 := (heap_at (unhide Q9) 2).2
      have cf3 := (heap_at (unhide Q9) 3).2
      have hw : WrB (fun i => i = b9) ux ((((ux.setCell ⟨b9, 0, none⟩ (.int .i64 pp.2.code)).setCell ⟨b9, 1, none⟩ (.int .i64 pp.2.time)).setCell ⟨b9, 2, none⟩ (.string pp.2.val)).setCell ⟨b9, 3, none⟩ (.slice r.a r.n r.c)) := sv4_wr ux b9 (.int .i64 pp.2.code) (.int .i64 pp.2.time) (.string pp.2.val) (.slice r.a r.n r.c)
      have P9 := hide (show ((((ux.setCell ⟨b9, 0, none⟩ (.int .i64 pp.2.code)).setCell ⟨b9, 1, none⟩ (.int .i64 pp.2.time)).setCell ⟨b9, 2, none⟩ (.string pp.2.val)).setCell ⟨b9, 3, none⟩ (.slice r.a r.n r.c)).heap[b9]? = some (.cells #[.int .i64 pp.2.code, .int .i64 pp.2.time, .string pp.2.val, .slice r.a r.n r.c] 40 (0, 0)) from sv4_heap (unhide Q9) (.int .i64 pp.2.code) (.int .i64 pp.2.time) (.string pp.2.val) (.slice r.a r.n r.c))
      have P8 := hide (show ((((ux.setCell ⟨b9, 0, none⟩ (.int .i64 pp.2.code)).setCell ⟨b9, 1, none⟩ (.int .i64 pp.2.time)).setCell ⟨b9, 2, none⟩ (.string pp.2.val)).setCell ⟨b9, 3, none⟩ (.slice r.a r.n r.c)).heap[b8]? = some (.cells #[.int .i64 pp.1.next, .slice l'.a l'.n l'.c, .slice f'.a f'.n f'.c, .slice s'.a s'.n s'.c] 29 (0, 0)) from (hw.block b8 (blk_lt (unhide Q8)) (fun e => h89 e.symm)).trans (unhide Q8))
      have PO := hide (show VzOwn ((((ux.setCell ⟨b9, 0, none⟩ (.int .i64 pp.2.code)).setCell ⟨b9, 1, none⟩ (.int .i64 pp.2.time)).setCell ⟨b9, 2, none⟩ (.string pp.2.val)).setCell ⟨b9, 3, none⟩ (.slice r.a r.n r.c)) w1.heap.size l' f' s' hs' pp.1 from (unhide QO).box (unhide Q9) (by decide) (by decide) (by decide) hw)
      have PB := hide (show Below wr.heap.size wr ((((ux.setCell ⟨b9, 0, none⟩ (.int .i64 pp.2.code)).setCell ⟨b9, 1, none⟩ (.int .i64 pp.2.time)).setCell ⟨b9, 2, none⟩ (.string pp.2.val)).setCell ⟨b9, 3, none⟩ (.slice r.a r.n r.c)) from (unhide QB).trans (WrB.below hw (fun i e => by rw [e]; exact h9) (unhide QB).size))
      clear hw
      go_simp
      refine hK.out _ _ (unhide SK _ (unhide PB)) (fun hHeld => ?_)
      clear hK K
      refine tk 14 13 rfl rfl hHeld ?_
      simp only [Act.put, lA, lB, lC]
      refine wpAnyH_done (by kernel_rfl) ?_ _
      clear hHeld SK
      go_wp2_with fail
      go_meet
      case rel => exact ⟨b8, b9, l', f', s', hs', r, rfl, rfl, rfl, P8, P9, PO, PB, h8, h9⟩
    ·have T10 := hide (unhide Ts).lit8
     go_simp
     generalize us.alloc (.cells #[.int .i64 0, .slice none 0 0, .slice none 0 0, .slice none 0 0] 29) = u10 at *
     generalize us.heap.size = b8 at *
     refine hK.out _ _ (unhide SK _ (unhide T10).bel) (fun hHeld => ?_)
     clear hK K
     refine wpAnyH_ready (rs := [5, 11]) (by kernel_rfl) (by simp) ?_
     refine AllReadyH.cons rfl (fun K hK => ?_) (AllReadyH.cons rfl (fun K hK => ?_) AllReadyH.nil)
     ·go_simp
      refine (unhide CS _ (unhide T10).bel).mono ?_
      intro e u10_5 hst
      obtain ⟨l', f', s', hs', r, rfl, hq⟩ := (unhide T10).call hwrW (unhide HP) hst
      have T10_5 := hide hq
      clear hq hst
      refine hK.out _ _ (unhide SK _ (unhide T10_5).bel) (fun hHeld => ?_)
      clear hK K
      refine tk 6 62 rfl rfl hHeld ?_
      simp only [Act.put, lA, lB, lC]
      refine tk 7 69 rfl rfl hHeld ?_
      simp only [Act.put, lA, lB, lC]
      refine tk 8 70 rfl rfl hHeld ?_
      simp only [Act.put, lA, lB, lC]
      refine tk 9 71 rfl rfl hHeld ?_
      simp only [Act.put, lA, lB, lC]
      refine rd [11] (.cons rfl (fun K hK => ?_) .nil)
      have T10_5_11 := hide (unhide T10_5).lit9
      go_simp
      generalize u10_5.alloc (.cells #[.int .i64 0, .int .i64 0, .string ⟨#[]⟩, .slice none 0 0] 40) = u10_5_11 at *
      generalize u10_5.heap.size = b9 at *
      refine hK.out _ _ (unhide SK _ (unhide T10_5_11).bel) (fun hHeld => ?_)
      clear hK K
      refine rd [12] (.cons rfl (fun K hK => ?_) .nil)
      have hOw := (unhide T10_5_11).r l' f' s' hs' r rfl
      obtain ⟨h8, k8⟩ := (unhide T10_5_11).e8 b8 rfl
      obtain ⟨h9, k9⟩ := (unhide T10_5_11).e9 b9 rfl
      have c0 := (heap_at k8 0).1
      have c1 := (heap_at k8 1).1
      have c2 := (heap_at k8 2).1
      have c3 := (heap_at k8 3).1
      have cf0 := (heap_at k8 0).2
      have cf1 := (heap_at k8 1).2
      have cf2 := (heap_at k8 2).2
      have cf3 := (heap_at k8 3).2
      have h89 : b9 ≠ b8 := fun e => by rw [e, k8] at k9; injection k9 with k9; injection k9 with _ k9 _; exact absurd k9 (by decide)
      have hw : WrB (fun i => i = b8) u10_5_11 ((((u10_5_11.setCell ⟨b8, 0, none⟩ (.int .i64 pp.1.next)).setCell ⟨b8, 1, none⟩ (.slice l'.a l'.n l'.c)).setCell ⟨b8, 2, none⟩ (.slice f'.a f'.n f'.c)).setCell ⟨b8, 3, none⟩ (.slice s'.a s'.n s'.c)) := sv4_wr u10_5_11 b8 (.int .i64 pp.1.next) (.slice l'.a l'.n l'.c) (.slice f'.a f'.n f'.c) (.slice s'.a s'.n s'.c)
      have Q8 := hide (show ((((u10_5_11.setCell ⟨b8, 0, none⟩ (.int .i64 pp.1.next)).setCell ⟨b8, 1, none⟩ (.slice l'.a l'.n l'.c)).setCell ⟨b8, 2, none⟩ (.slice f'.a f'.n f'.c)).setCell ⟨b8, 3, none⟩ (.slice s'.a s'.n s'.c)).heap[b8]? = some (.cells #[.int .i64 pp.1.next, .slice l'.a l'.n l'.c, .slice f'.a f'.n f'.c, .slice s'.a s'.n s'.c] 29 (0, 0)) from sv4_heap k8 (.int .i64 pp.1.next) (.slice l'.a l'.n l'.c) (.slice f'.a f'.n f'.c) (.slice s'.a s'.n s'.c))
      have Q9 := hide (show ((((u10_5_11.setCell ⟨b8, 0, none⟩ (.int .i64 pp.1.next)).setCell ⟨b8, 1, none⟩ (.slice l'.a l'.n l'.c)).setCell ⟨b8, 2, none⟩ (.slice f'.a f'.n f'.c)).setCell ⟨b8, 3, none⟩ (.slice s'.a s'.n s'.c)).heap[b9]? = some (.cells #[.int .i64 0, .int .i64 0, .string ⟨#[]⟩, .slice none 0 0] 40 (0, 0)) from (hw.block b9 (blk_lt k9) h89).trans k9)
      have QO := hide (show VzOwn ((((u10_5_11.setCell ⟨b8, 0, none⟩ (.int .i64 pp.1.next)).setCell ⟨b8, 1, none⟩ (.slice l'.a l'.n l'.c)).setCell ⟨b8, 2, none⟩ (.slice f'.a f'.n f'.c)).setCell ⟨b8, 3, none⟩ (.slice s'.a s'.n s'.c)) w1.heap.size l' f' s' hs' pp.1 from hOw.box k8 (by decide) (by decide) (by decide) hw)
      have QB := hide (show Below wr.heap.size wr ((((u10_5_11.setCell ⟨b8, 0, none⟩ (.int .i64 pp.1.next)).setCell ⟨b8, 1, none⟩ (.slice l'.a l'.n l'.c)).setCell ⟨b8, 2, none⟩ (.slice f'.a f'.n f'.c)).setCell ⟨b8, 3, none⟩ (.slice s'.a s'.n s'.c)) from (unhide T10_5_11).bel.trans (WrB.below hw (fun i e => by rw [e]; exact h8) (unhide T10_5_11).bel.size))
      clear hw hOw k8 k9
      go_simp
      refine hK.out _ _ (unhide SK _ (unhide QB)) (fun hHeld => ?_)
      clear hK K
      clear c0 cf0 c1 cf1 c2 cf2 c3 cf3
      generalize ((((u10_5_11.setCell ⟨b8, 0, none⟩ (.int .i64 pp.1.next)).setCell ⟨b8, 1, none⟩ (.slice l'.a l'.n l'.c)).setCell ⟨b8, 2, none⟩ (.slice f'.a f'.n f'.c)).setCell ⟨b8, 3, none⟩ (.slice s'.a s'.n s'.c)) = ux at *
      refine rd [13] (.cons rfl (fun K hK => ?_) .nil)
      have c0 := (heap_at (unhide Q9) 0).1
      have c1 := (heap_at (unhide Q9) 1).1
      have c2 := (heap_at (unhide Q9) 2).1
      have c3 := (heap_at (unhide Q9) 3).1
      have cf0 := (heap_at (unhide Q9) 0).2
      have cf1 := (heap_at (unhide Q9) 1).2
      have cf2 := (heap_at (unhide Q9) 2).2
      have cf3 := (heap_at (unhide Q9) 3).2
      have hw : WrB (fun i => i = b9) ux ((((ux.setCell ⟨b9, 0, none⟩ (.int .i64 pp.2.code)).setCell ⟨b9, 1, none⟩ (.int .i64 pp.2.time)).setCell ⟨b9, 2, none⟩ (.string pp.2.val)).setCell ⟨b9, 3, none⟩ (.slice r.a r.n r.c)) := sv4_wr ux b9 (.int .i64 pp.2.code) (.int .i64 pp.2.time) (.string pp.2.val) (.slice r.a r.n r.c)
      have P9 := hide (show ((((ux.setCell ⟨b9, 0, none⟩ (.int .i64 pp.2.code)).setCell ⟨b9, 1, none⟩ (.int .i64 pp.2.time)).setCell ⟨b9, 2, none⟩ (.string pp.2.val)).setCell ⟨b9, 3, none⟩ (.slice r.a r.n r.c)).heap[b9]? = some (.cells #[.int .i64 pp.2.code, .int .i64 pp.2.time, .string pp.2.val, .slice r.a r.n r.c] 40 (0, 0)) from sv4_heap (unhide Q9) (.int .i64 pp.2.code) (.int .i64 pp.2.time) (.string pp.2.val) (.slice r.a r.n r.c))
      have P8 := hide (show ((((ux.setCell ⟨b9, 0, none⟩ (.int .i64 pp.2.code)).setCell ⟨b9, 1, none⟩ (.int .i64 pp.2.time)).setCell ⟨b9, 2, none⟩ (.string pp.2.val)).setCell ⟨b9, 3, none⟩ (.slice r.a r.n r.c)).heap[b8]? = some (.cells #[.int .i64 pp.1.next, .slice l'.a l'.n l'.c, .slice f'.a f'.n f'.c, .slice s'.a s'.n s'.c] 29 (0, 0)) from (hw.block b8 (blk_lt (unhide Q8)) (fun e => h89 e.symm)).trans (unhide Q8))
      have PO := hide (show VzOwn ((((ux.setCell ⟨b9, 0, none⟩ (.int .i64 pp.2.code)).setCell ⟨b9, 1, none⟩ (.int .i64 pp.2.time)).setCell ⟨b9, 2, none⟩ (.string pp.2.val)).setCell ⟨b9, 3, none⟩ (.slice r.a r.n r.c)) w1.heap.size l' f' s' hs' pp.1 from (unhide QO).box (unhide Q9) (by decide) (by decide) (by decide) hw)
      have PB := hide (show Below wr.heap.size wr ((((ux.setCell ⟨b9, 0, none⟩ (.int .i64 pp.2.code)).setCell ⟨b9, 1, none⟩ (.int .i64 pp.2.time)).setCell ⟨b9, 2, none⟩ (.string pp.2.val)).setCell ⟨b9, 3, none⟩ (.slice r.a r.n r.c)) from (unhide QB).trans (WrB.below hw (fun i e => by rw [e]; exact h9) (unhide QB).size))
      clear hw
      go_simp
      refine hK.out _ _ (unhide SK _ (unhide PB)) (fun hHeld => ?_)
      clear hK K
      refine tk 14 13 rfl rfl hHeld ?_
      simp only [Act.put, lA, lB, lC]
      refine wpAnyH_done (by kernel_rfl) ?_ _
      clear hHeld SK
      go_wp2_with fail
      go_meet
      case rel => exact ⟨b8, b9, l', f', s', hs', r, rfl, rfl, rfl, P8, P9, PO, PB, h8, h9⟩
     ·have T10_11 := hide (unhide T10).lit9
      go_simp
      generalize u10.alloc (.cells #[.int .i64 0, .int .i64 0, .string ⟨#[]⟩, .slice none 0 0] 40) = u10_11 at *
      generalize u10.heap.size = b9 at *
      refine hK.out _ _ (unhide SK _ (unhide T10_11).bel) (fun hHeld => ?_)
      clear hK K
      refine rd [5] (.cons rfl (fun K hK => ?_) .nil)
      go_simp
      refine (unhide CS _ (unhide T10_11).bel).mono ?_
      intro e u10_11_5 hst
      obtain ⟨l', f', s', hs', r, rfl, hq⟩ := (unhide T10_11).call hwrW (unhide HP) hst
      have T10_11_5 := hide hq
      clear hq hst
      refine hK.out _ _ (unhide SK _ (unhide T10_11_5).bel) (fun hHeld => ?_)
      clear hK K
      refine tk 6 62 rfl rfl hHeld ?_
      simp only [Act.put, lA, lB, lC]
      refine tk 7 69 rfl rfl hHeld ?_
      simp only [Act.put, lA, lB, lC]
      refine tk 8 70 rfl rfl hHeld ?_
      simp only [Act.put, lA, lB, lC]
      refine tk 9 71 rfl rfl hHeld ?_
      simp only [Act.put, lA, lB, lC]
      refine rd [12] (.cons rfl (fun K hK => ?_) .nil)
      have hOw := (unhide T10_11_5).r l' f' s' hs' r rfl
      obtain ⟨h8, k8⟩ := (unhide T10_11_5).e8 b8 rfl
      obtain ⟨h9, k9⟩ := (unhide T10_11_5).e9 b9 rfl
      have c0 := (heap_at k8 0).1
      have c1 := (heap_at k8 1).1
      have c2 := (heap_at k8 2).1
      have c3 := (heap_at k8 3).1
      have cf0 := (heap_at k8 0).2
      have cf1 := (heap_at k8 1).2
      have cf2 := (heap_at k8 2).2
      have cf3 := (heap_at k8 3).2
      have h89 : b9 ≠ b8 := fun e => by rw [e, k8] at k9; injection k9 with k9; injection k9 with _ k9 _; exact absurd k9 (by decide)
      have hw : WrB (fun i => i = b8) u10_11_5 ((((u10_11_5.setCell ⟨b8, 0, none⟩ (.int .i64 pp.1.next)).setCell ⟨b8, 1, none⟩ (.slice l'.a l'.n l'.c)).setCell ⟨b8, 2, none⟩ (.slice f'.a f'.n f'.c)).setCell ⟨b8, 3, none⟩ (.slice s'.a s'.n s'.c)) := sv4_wr u10_11_5 b8 (.int .i64 pp.1.next) (.slice l'.a l'.n l'.c) (.slice f'.a f'.n f'.c) (.slice s'.a s'.n s'.c)
      have Q8 := hide (show ((((u10_11_5.setCell ⟨b8, 0, none⟩ (.int .i64 pp.1.next)).setCell ⟨b8, 1, none⟩ (.slice l'.a l'.n l'.c)).setCell ⟨b8, 2, none⟩ (.slice f'.a f'.n f'.c)).setCell ⟨b8, 3, none⟩ (.slice s'.a s'.n s'.c)).heap[b8]? = some (.cells #[.int .i64 pp.1.next, .slice l'.a l'.n l'.c, .slice f'.a f'.n f'.c, .slice s'.a s'.n s'.c] 29 (0, 0)) from sv4_heap k8 (.int .i64 pp.1.next) (.slice l'.a l'.n l'.c) (.slice f'.a f'.n f'.c) (.slice s'.a s'.n s'.c))
      have Q9 := hide (show ((((u10_11_5.setCell ⟨b8, 0, none⟩ (.int .i64 pp.1.next)).setCell ⟨b8, 1, none⟩ (.slice l'.a l'.n l'.c)).setCell ⟨b8, 2, none⟩ (.slice f'.a f'.n f'.c)).setCell ⟨b8, 3, none⟩ (.slice s'.a s'.n s'.c)).heap[b9]? = some (.cells #[.int .i64 0, .int .i64 0, .string ⟨#[]⟩, .slice none 0 0] 40 (0, 0)) from (hw.block b9 (blk_lt k9) h89).trans k9)
      have QO := hide (show VzOwn ((((u10_11_5.setCell ⟨b8, 0, none⟩ (.int .i64 pp.1.next)).setCell ⟨b8, 1, none⟩ (.slice l'.a l'.n l'.c)).setCell ⟨b8, 2, none⟩ (.slice f'.a f'.n f'.c)).setCell ⟨b8, 3, none⟩ (.slice s'.a s'.n s'.c)) w1.heap.size l' f' s' hs' pp.1 from hOw.box k8 (by decide) (by decide) (by decide) hw)
      have QB := hide (show Below wr.heap.size wr ((((u10_11_5.setCell ⟨b8, 0, none⟩ (.int .i64 pp.1.next)).setCell ⟨b8, 1, none⟩ (.slice l'.a l'.n l'.c)).setCell ⟨b8, 2, none⟩ (.slice f'.a f'.n f'.c)).setCell ⟨b8, 3, none⟩ (.slice s'.a s'.n s'.c)) from (unhide T10_11_5).bel.trans (WrB.below hw (fun i e => by rw [e]; exact h8) (unhide T10_11_5).bel.size))
      clear hw hOw k8 k9
      go_simp
      refine hK.out _ _ (unhide SK _ (unhide QB)) (fun hHeld => ?_)
      clear hK K
      clear c0 cf0 c1 cf1 c2 cf2 c3 cf3
      generalize ((((u10_11_5.setCell ⟨b8, 0, none⟩ (.int .i64 pp.1.next)).setCell ⟨b8, 1, none⟩ (.slice l'.a l'.n l'.c)).setCell ⟨b8, 2, none⟩ (.slice f'.a f'.n f'.c)).setCell ⟨b8, 3, none⟩ (.slice s'.a s'.n s'.c)) = ux at *
      refine rd [13] (.cons rfl (fun K hK => ?_) .nil)
      have c0 := (heap_at (unhide Q9) 0).1
      have c1 := (heap_at (unhide Q9) 1).1
      have c2 := (heap_at (unhide Q9) 2).1
      have c3 := (heap_at (unhide Q9) 3).1
      have cf0 := (heap_at (unhide Q9) 0).2
      have cf1 := (heap_at (unhide Q9) 1).2
      have cf2 := (heap_at (unhide Q9) 2).2
      have cf3 := (heap_at (unhide Q9) 3).2
      have hw : WrB (fun i => i = b9) ux ((((ux.setCell ⟨b9, 0, none⟩ (.int .i64 pp.2.code)).setCell ⟨b9, 1, none⟩ (.int .i64 pp.2.time)).setCell ⟨b9, 2, none⟩ (.string pp.2.val)).setCell ⟨b9, 3, none⟩ (.slice r.a r.n r.c)) := sv4_wr ux b9 (.int .i64 pp.2.code) (.int .i64 pp.2.time) (.string pp.2.val) (.slice r.a r.n r.c)
      have P9 := hide (show ((((ux.setCell ⟨b9, 0, none⟩ (.int .i64 pp.2.code)).setCell ⟨b9, 1, none⟩ (.int .i64 pp.2.time)).setCell ⟨b9, 2, none⟩ (.string pp.2.val)).setCell ⟨b9, 3, none⟩ (.slice r.a r.n r.c)).heap[b9]? = some (.cells #[.int .i64 pp.2.code, .int .i64 pp.2.time, .string pp.2.val, .slice r.a r.n r.c] 40 (0, 0)) from sv4_heap (unhide Q9) (.int .i64 pp.2.code) (.int .i64 pp.2.time) (.string pp.2.val) (.slice r.a r.n r.c))
      have P8 := hide (show ((((ux.setCell ⟨b9, 0, none⟩ (.int .i64 pp.2.code)).setCell ⟨b9, 1, none⟩ (.int .i64 pp.2.time)).setCell ⟨b9, 2, none⟩ (.string pp.2.val)).setCell ⟨b9, 3, none⟩ (.slice r.a r.n r.c)).heap[b8]? = some (.cells #[.int .i64 pp.1.next, .slice l'.a l'.n l'.c, .slice f'.a f'.n f'.c, .slice s'.a s'.n s'.c] 29 (0, 0)) from (hw.block b8 (blk_lt (unhide Q8)) (fun e => h89 e.symm)).trans (unhide Q8))
      have PO := hide (show VzOwn ((((ux.setCell ⟨b9, 0, none⟩ (.int .i64 pp.2.code)).setCell ⟨b9, 1, none⟩ (.int .i64 pp.2.time)).setCell ⟨b9, 2, none⟩ (.string pp.2.val)).setCell ⟨b9, 3, none⟩ (.slice r.a r.n r.c)) w1.heap.size l' f' s' hs' pp.1 from (unhide QO).box (unhide Q9) (by decide) (by decide) (by decide) hw)
      have PB := hide (show Below wr.heap.size wr ((((ux.setCell ⟨b9, 0, none⟩ (.int .i64 pp.2.code)).setCell ⟨b9, 1, none⟩ (.int .i64 pp.2.time)).setCell ⟨b9, 2, none⟩ (.string pp.2.val)).setCell ⟨b9, 3, none⟩ (.slice r.a r.n r.c)) from (unhide QB).trans (WrB.below hw (fun i e => by rw [e]; exact h9) (unhide QB).size))
      clear hw
      go_simp
      refine hK.out _ _ (unhide SK _ (unhide PB)) (fun hHeld => ?_)
      clear hK K
      refine tk 14 13 rfl rfl hHeld ?_
      simp only [Act.put, lA, lB, lC]
      refine wpAnyH_done (by kernel_rfl) ?_ _
      clear hHeld SK
      go_wp2_with fail
      go_meet
      case rel => exact ⟨b8, b9, l', f', s', hs', r, rfl, rfl, rfl, P8, P9, PO, PB, h8, h9⟩
    ·have T11 := hide (unhide Ts).lit9
     go_simp
     generalize us.alloc (.cells #[.int .i64 0, .int .i64 0, .string ⟨#[]⟩, .slice none 0 0] 40) = u11 at *
     generalize us.heap.size = b9 at *
     refine hK.out _ _ (unhide SK _ (unhide T11).bel) (fun hHeld => ?_)
     clear hK K
     refine wpAnyH_ready (rs := [5, 10]) (by kernel_rfl) (by simp) ?_
     refine AllReadyH.cons rfl (fun K hK => ?_) (AllReadyH.cons rfl (fun K hK => ?_) AllReadyH.nil)
     ·go_simp
      refine (unhide CS _ (unhide T11).bel).mono ?_
      intro e u11_5 hst
      obtain ⟨l', f', s', hs', r, rfl, hq⟩ := (unhide T11).call hwrW (unhide HP) hst
      have T11_5 := hide hq
      clear hq hst
      refine hK.out _ _ (unhide SK _ (unhide T11_5).bel) (fun hHeld => ?_)
      clear hK K
      refine tk 6 62 rfl rfl hHeld ?_
      simp only [Act.put, lA, lB, lC]
      refine tk 7 69 rfl rfl hHeld ?_
      simp only [Act.put, lA, lB, lC]
      refine tk 8 70 rfl rfl hHeld ?_
      simp only [Act.put, lA, lB, lC]
      refine tk 9 71 rfl rfl hHeld ?_
      simp only [Act.put, lA, lB, lC]
      refine rd [10] (.cons rfl (fun K hK => ?_) .nil)
      have T11_5_10 := hide (unhide T11_5).lit8
      go_simp
      generalize u11_5.alloc (.cells #[.int .i64 0, .slice none 0 0, .slice none 0 0, .slice none 0 0] 29) = u11_5_10 at *
      generalize u11_5.heap.size = b8 at *
      refine hK.out _ _ (unhide SK _ (unhide T11_5_10).bel) (fun hHeld => ?_)
      clear hK K
      refine rd [12] (.cons rfl (fun K hK => ?_) .nil)
      have hOw := (unhide T11_5_10).r l' f' s' hs' r rfl
      obtain ⟨h8, k8⟩ := (unhide T11_5_10).e8 b8 rfl
      obtain ⟨h9, k9⟩ := (unhide T11_5_10).e9 b9 rfl
      have c0 := (heap_at k8 0).1
      have c1 := (heap_at k8 1).1
      have c2 := (heap_at k8 2).1
      have c3 := (heap_at k8 3).1
      have cf0 := (heap_at k8 0).2
      have cf1 := (heap_at k8 1).2
      have cf2 := (heap_at k8 2).2
      have cf3 := (heap_at k8 3).2
      have h89 : b9 ≠ b8 := fun e => by rw [e, k8] at k9; injection k9 with k9; injection k9 with _ k9 _; exact absurd k9 (by decide)
      have hw : WrB (fun i => i = b8) u11_5_10 ((((u11_5_10.setCell ⟨b8, 0, none⟩ (.int .i64 pp.1.next)).setCell ⟨b8, 1, none⟩ (.slice l'.a l'.n l'.c)).setCell ⟨b8, 2, none⟩ (.slice f'.a f'.n f'.c)).setCell ⟨b8, 3, none⟩ (.slice s'.a s'.n s'.c)) := sv4_wr u11_5_10 b8 (.int .i64 pp.1.next) (.slice l'.a l'.n l'.c) (.slice f'.a f'.n f'.c) (.slice s'.a s'.n s'.c)
      have Q8 := hide (show ((((u11_5_10.setCell ⟨b8, 0, none⟩ (.int .i64 pp.1.next)).setCell ⟨b8, 1, none⟩ (.slice l'.a l'.n l'.c)).setCell ⟨b8, 2, none⟩ (.slice f'.a f'.n f'.c)).setCell ⟨b8, 3, none⟩ (.slice s'.a s'.n s'.c)).heap[b8]? = some (.cells #[.int .i64 pp.1.next, .slice l'.a l'.n l'.c, .slice f'.a f'.n f'.c, .slice s'.a s'.n s'.c] 29 (0, 0)) from sv4_heap k8 (.int .i64 pp.1.next) (.slice l'.a l'.n l'.c) (.slice f'.a f'.n f'.c) (.slice s'.a s'.n s'.c))
      have Q9 := hide (show ((((u11_5_10.setCell ⟨b8, 0, none⟩ (.int .i64 pp.1.next)).setCell ⟨b8, 1, none⟩ (.slice l'.a l'.n l'.c)).setCell ⟨b8, 2, none⟩ (.slice f'.a f'.n f'.c)).setCell ⟨b8, 3, none⟩ (.slice s'.a s'.n s'.c)).heap[b9]? = some (.cells #[.int .i64 0, .int .i64 0, .string ⟨#[]⟩, .slice none 0 0] 40 (0, 0)) from (hw.block b9 (blk_lt k9) h89).trans k9)
      have QO := hide (show VzOwn ((((u11_5_10.setCell ⟨b8, 0, none⟩ (.int .i64 pp.1.next)).setCell ⟨b8, 1, none⟩ (.slice l'.a l'.n l'.c)).setCell ⟨b8, 2, none⟩ (.slice f'.a f'.n f'.c)).setCell ⟨b8, 3, none⟩ (.slice s'.a s'.n s'.c)) w1.heap.size l' f' s' hs' pp.1 from hOw.box k8 (by decide) (by decide) (by decide) hw)
      have QB := hide (show Below wr.heap.size wr ((((u11_5_10.setCell ⟨b8, 0, none⟩ (.int .i64 pp.1.next)).setCell ⟨b8, 1, none⟩ (.slice l'.a l'.n l'.c)).setCell ⟨b8, 2, none⟩ (.slice f'.a f'.n f'.c)).setCell ⟨b8, 3, none⟩ (.slice s'.a s'.n s'.c)) from (unhide T11_5_10).bel.trans (WrB.below hw (fun i e => by rw [e]; exact h8) (unhide T11_5_10).bel.size))
      clear hw hOw k8 k9
      go_simp
      refine hK.out _ _ (unhide SK _ (unhide QB)) (fun hHeld => ?_)
      clear hK K
      clear c0 cf0 c1 cf1 c2 cf2 c3 cf3
      generalize ((((u11_5_10.setCell ⟨b8, 0, none⟩ (.int .i64 pp.1.next)).setCell ⟨b8, 1, none⟩ (.slice l'.a l'.n l'.c)).setCell ⟨b8, 2, none⟩ (.slice f'.a f'.n f'.c)).setCell ⟨b8, 3, none⟩ (.slice s'.a s'.n s'.c)) = ux at *
      refine rd [13] (.cons rfl (fun K hK => ?_) .nil)
      have c0 := (heap_at (unhide Q9) 0).1
      have c1 := (heap_at (unhide Q9) 1).1
      have c2 := (heap_at (unhide Q9) 2).1
      have c3 := (heap_at (unhide Q9) 3).1
      have cf0 := (heap_at (unhide Q9) 0).2
      have cf1 := (heap_at (unhide Q9) 1).2
      have cf2 := (heap_at (unhide Q9) 2).2
      have cf3 := (heap_at (unhide Q9) 3).2
      have hw : WrB (fun i => i = b9) ux ((((ux.setCell ⟨b9, 0, none⟩ (.int .i64 pp.2.code)).setCell ⟨b9, 1, none⟩ (.int .i64 pp.2.time)).setCell ⟨b9, 2, none⟩ (.string pp.2.val)).setCell ⟨b9, 3, none⟩ (.slice r.a r.n r.c)) := sv4_wr ux b9 (.int .i64 pp.2.code) (.int .i64 pp.2.time) (.string pp.2.val) (.slice r.a r.n r.c)
      have P9 := hide (show ((((ux.setCell ⟨b9, 0, none⟩ (.int .i64 pp.2.code)).setCell ⟨b9, 1, none⟩ (.int .i64 pp.2.time)).setCell ⟨b9, 2, none⟩ (.string pp.2.val)).setCell ⟨b9, 3, none⟩ (.slice r.a r.n r.c)).heap[b9]? = some (.cells #[.int .i64 pp.2.code, .int .i64 pp.2.time, .string pp.2.val, .slice r.a r.n r.c] 40 (0, 0)) from sv4_heap (unhide Q9) (.int .i64 pp.2.code) (.int .i64 pp.2.time) (.string pp.2.val) (.slice r.a r.n r.c))
      have P8 := hide (show ((((ux.setCell ⟨b9, 0, none⟩ (.int .i64 pp.2.code)).setCell ⟨b9, 1, none⟩ (.int .i64 pp.2.time)).setCell ⟨b9, 2, none⟩ (.string pp.2.val)).setCell ⟨b9, 3, none⟩ (.slice r.a r.n r.c)).heap[b8]? = some (.cells #[.int .i64 pp.1.next, .slice l'.a l'.n l'.c, .slice f'.a f'.n f'.c, .slice s'.a s'.n s'.c] 29 (0, 0)) from (hw.block b8 (blk_lt (unhide Q8)) (fun e => h89 e.symm)).trans (unhide Q8))
      have PO := hide (show VzOwn ((((ux.setCell ⟨b9, 0, none⟩ (.int .i64 pp.2.code)).setCell ⟨b9, 1, none⟩ (.int .i64 pp.2.time)).setCell ⟨b9, 2, none⟩ (.string pp.2.val)).setCell ⟨b9, 3, none⟩ (.slice r.a r.n r.c)) w1.heap.size l' f' s' hs' pp.1 from (unhide QO).box (unhide Q9) (by decide) (by decide) (by decide) hw)
      have PB := hide (show Below wr.heap.size wr ((((ux.setCell ⟨b9, 0, none⟩ (.int .i64 pp.2.code)).setCell ⟨b9, 1, none⟩ (.int .i64 pp.2.time)).setCell ⟨b9, 2, none⟩ (.string pp.2.val)).setCell ⟨b9, 3, none⟩ (.slice r.a r.n r.c)) from (unhide QB).trans (WrB.below hw (fun i e => by rw [e]; exact h9) (unhide QB).size))
      clear hw
      go_simp
      refine hK.out _ _ (unhide SK _ (unhide PB)) (fun hHeld => ?_)
      clear hK K
      refine tk 14 13 rfl rfl hHeld ?_
      simp only [Act.put, lA, lB, lC]
      refine wpAnyH_done (by kernel_rfl) ?_ _
      clear hHeld SK
      go_wp2_with fail
      go_meet
      case rel => exact ⟨b8, b9, l', f', s', hs', r, rfl, rfl, rfl, P8, P9, PO, PB, h8, h9⟩
     ·have T11_10 := hide (unhide T11).lit8
      go_simp
      generalize u11.alloc (.cells #[.int .i64 0, .slice none 0 0, .slice none 0 0, .slice none 0 0] 29) = u11_10 at *
      generalize u11.heap.size = b8 at *
      refine hK.out _ _ (unhide SK _ (unhide T11_10).bel) (fun hHeld => ?_)
      clear hK K
      refine rd [5] (.cons rfl (fun K hK => ?_) .nil)
      go_simp
      refine (unhide CS _ (unhide T11_10).bel).mono ?_
      intro e u11_10_5 hst
      obtain ⟨l', f', s', hs', r, rfl, hq⟩ := (unhide T11_10).call hwrW (unhide HP) hst
      have T11_10_5 := hide hq
      clear hq hst
      refine hK.out _ _ (unhide SK _ (unhide T11_10_5).bel) (fun hHeld => ?_)
      clear hK K
      refine tk 6 62 rfl rfl hHeld ?_
      simp only [Act.put, lA, lB, lC]
      refine tk 7 69 rfl rfl hHeld ?_
      simp only [Act.put, lA, lB, lC]
      refine tk 8 70 rfl rfl hHeld ?_
      simp only [Act.put, lA, lB, lC]
      refine tk 9 71 rfl rfl hHeld ?_
      simp only [Act.put, lA, lB, lC]
      refine rd [12] (.cons rfl (fun K hK => ?_) .nil)
      have hOw := (unhide T11_10_5).r l' f' s' hs' r rfl
      obtain ⟨h8, k8⟩ := (unhide T11_10_5).e8 b8 rfl
      obtain ⟨h9, k9⟩ := (unhide T11_10_5).e9 b9 rfl
      have c0 := (heap_at k8 0).1
      have c1 := (heap_at k8 1).1
      have c2 := (heap_at k8 2).1
      have c3 := (heap_at k8 3).1
      have cf0 := (heap_at k8 0).2
      have cf1 := (heap_at k8 1).2
      have cf2 := (heap_at k8 2).2
      have cf3 := (heap_at k8 3).2
      have h89 : b9 ≠ b8 := fun e => by rw [e, k8] at k9; injection k9 with k9; injection k9 with _ k9 _; exact absurd k9 (by decide)
      have hw : WrB (fun i => i = b8) u11_10_5 ((((u11_10_5.setCell ⟨b8, 0, none⟩ (.int .i64 pp.1.next)).setCell ⟨b8, 1, none⟩ (.slice l'.a l'.n l'.c)).setCell ⟨b8, 2, none⟩ (.slice f'.a f'.n f'.c)).setCell ⟨b8, 3, none⟩ (.slice s'.a s'.n s'.c)) := sv4_wr u11_10_5 b8 (.int .i64 pp.1.next) (.slice l'.a l'.n l'.c) (.slice f'.a f'.n f'.c) (.slice s'.a s'.n s'.c)
      have Q8 := hide (show ((((u11_10_5.setCell ⟨b8, 0, none⟩ (.int .i64 pp.1.next)).setCell ⟨b8, 1, none⟩ (.slice l'.a l'.n l'.c)).setCell ⟨b8, 2, none⟩ (.slice f'.a f'.n f'.c)).setCell ⟨b8, 3, none⟩ (.slice s'.a s'.n s'.c)).heap[b8]? = some (.cells #[.int .i64 pp.1.next, .slice l'.a l'.n l'.c, .slice f'.a f'.n f'.c, .slice s'.a s'.n s'.c] 29 (0, 0)) from sv4_heap k8 (.int .i64 pp.1.next) (.slice l'.a l'.n l'.c) (.slice f'.a f'.n f'.c) (.slice s'.a s'.n s'.c))
      have Q9 := hide (show ((((u11_10_5.setCell ⟨b8, 0, none⟩ (.int .i64 pp.1.next)).setCell ⟨b8, 1, none⟩ (.slice l'.a l'.n l'.c)).setCell ⟨b8, 2, none⟩ (.slice f'.a f'.n f'.c)).setCell ⟨b8, 3, none⟩ (.slice s'.a s'.n s'.c)).heap[b9]? = some (.cells #[.int .i64 0, .int .i64 0, .string ⟨#[]⟩, .slice none 0 0] 40 (0, 0)) from (hw.block b9 (blk_lt k9) h89).trans k9)
      have QO := hide (show VzOwn ((((u11_10_5.setCell ⟨b8, 0, none⟩ (.int .i64 pp.1.next)).setCell ⟨b8, 1, none⟩ (.slice l'.a l'.n l'.c)).setCell ⟨b8, 2, none⟩ (.slice f'.a f'.n f'.c)).setCell ⟨b8, 3, none⟩ (.slice s'.a s'.n s'.c)) w1.heap.size l' f' s' hs' pp.1 from hOw.box k8 (by decide) (by decide) (by decide) hw)
      have QB := hide (show Below wr.heap.size wr ((((u11_10_5.setCell ⟨b8, 0, none⟩ (.int .i64 pp.1.next)).setCell ⟨b8, 1, none⟩ (.slice l'.a l'.n l'.c)).setCell ⟨b8, 2, none⟩ (.slice f'.a f'.n f'.c)).setCell ⟨b8, 3, none⟩ (.slice s'.a s'.n s'.c)) from (unhide T11_10_5).bel.trans (WrB.below hw (fun i e => by rw [e]; exact h8) (unhide T11_10_5).bel.size))
      clear hw hOw k8 k9
      go_simp
      refine hK.out _ _ (unhide SK _ (unhide QB)) (fun hHeld => ?_)
      clear hK K
      clear c0 cf0 c1 cf1 c2 cf2 c3 cf3
      generalize ((((u11_10_5.setCell ⟨b8, 0, none⟩ (.int .i64 pp.1.next)).setCell ⟨b8, 1, none⟩ (.slice l'.a l'.n l'.c)).setCell ⟨b8, 2, none⟩ (.slice f'.a f'.n f'.c)).setCell ⟨b8, 3, none⟩ (.slice s'.a s'.n s'.c)) = ux at *
      refine rd [13] (.cons rfl (fun K hK => ?_) .nil)
      have c0 := (heap_at (unhide Q9) 0).1
      have c1 := (heap_at (unhide Q9) 1).1
      have c2 := (heap_at (unhide Q9) 2).1
      have c3 := (heap_at (unhide Q9) 3).1
      have cf0 := (heap_at (unhide Q9) 0).2
      have cf1 := (heap_at (unhide Q9) 1).2
      have cf2 := (heap_at (unhide Q9) 2).2
      have cf3 := (heap_at (unhide Q9) 3).2
      have hw : WrB (fun i => i = b9) ux ((((ux.setCell ⟨b9, 0, none⟩ (.int .i64 pp.2.code)).setCell ⟨b9, 1, none⟩ (.int .i64 pp.2.time)).setCell ⟨b9, 2, none⟩ (.string pp.2.val)).setCell ⟨b9, 3, none⟩ (.slice r.a r.n r.c)) := sv4_wr ux b9 (.int .i64 pp.2.code) (.int .i64 pp.2.time) (.string pp.2.val) (.slice r.a r.n r.c)
      have P9 := hide (show ((((ux.setCell ⟨b9, 0, none⟩ (.int .i64 pp.2.code)).setCell ⟨b9, 1, none⟩ (.int .i64 pp.2.time)).setCell ⟨b9, 2, none⟩ (.string pp.2.val)).setCell ⟨b9, 3, none⟩ (.slice r.a r.n r.c)).heap[b9]? = some (.cells #[.int .i64 pp.2.code, .int .i64 pp.2.time, .string pp.2.val, .slice r.a r.n r.c] 40 (0, 0)) from sv4_heap (unhide Q9) (.int .i64 pp.2.code) (.int .i64 pp.2.time) (.string pp.2.val) (.slice r.a r.n r.c))
      have P8 := hide (show ((((ux.setCell ⟨b9, 0, none⟩ (.int .i64 pp.2.code)).setCell ⟨b9, 1, none⟩ (.int .i64 pp.2.time)).setCell ⟨b9, 2, none⟩ (.string pp.2.val)).setCell ⟨b9, 3, none⟩ (.slice r.a r.n r.c)).heap[b8]? = some (.cells #[.int .i64 pp.1.next, .slice l'.a l'.n l'.c, .slice f'.a f'.n f'.c, .slice s'.a s'.n s'.c] 29 (0, 0)) from (hw.block b8 (blk_lt (unhide Q8)) (fun e => h89 e.symm)).trans (unhide Q8))
      have PO := hide (show VzOwn ((((ux.setCell ⟨b9, 0, none⟩ (.int .i64 pp.2.code)).setCell ⟨b9, 1, none⟩ (.int .i64 pp.2.time)).setCell ⟨b9, 2, none⟩ (.string pp.2.val)).setCell ⟨b9, 3, none⟩ (.slice r.a r.n r.c)) w1.heap.size l' f' s' hs' pp.1 from (unhide QO).box (unhide Q9) (by decide) (by decide) (by decide) hw)
      have PB := hide (show Below wr.heap.size wr ((((ux.setCell ⟨b9, 0, none⟩ (.int .i64 pp.2.code)).setCell ⟨b9, 1, none⟩ (.int .i64 pp.2.time)).setCell ⟨b9, 2, none⟩ (.string pp.2.val)).setCell ⟨b9, 3, none⟩ (.slice r.a r.n r.c)) from (unhide QB).trans (WrB.below hw (fun i e => by rw [e]; exact h9) (unhide QB).size))
      clear hw
      go_simp
      refine hK.out _ _ (unhide SK _ (unhide PB)) (fun hHeld => ?_)
      clear hK K
      refine tk 14 13 rfl rfl hHeld ?_
      simp only [Act.put, lA, lB, lC]
      refine wpAnyH_done (by kernel_rfl) ?_ _
      clear hHeld SK
      go_wp2_with fail
      go_meet
      case rel => exact ⟨b8, b9, l', f', s', hs', r, rfl, rfl, rfl, P8, P9, PO, PB, h8, h9⟩
   case rest =>
    obtain ⟨b8, b9, ⟨la2, ln2, lc2⟩, ⟨fa2, fn2, fc2⟩, ⟨sa2, sn2, sc2⟩, hs2, ⟨ra, rn2, rc⟩, rfl, rfl, rfl, hK8, hK9, hOW, hBc, -, -⟩ := hcut
    clear CS SK T00
    have NS := hide ((unhide LS).lay (unhide hBc) (unhide hOW))
    have kb := ((unhide LS).below (unhide hBc)).box
    unfold vzC at kb
    simp only at kb NS
    rw [(unhide HPP).1] at hK9
    have t0 := (heap_at kb 0).1
    have t1 := (heap_at kb 1).1
    have t2 := (heap_at kb 2).1
    have t3 := (heap_at kb 3).1
    have tf0 := (heap_at kb 0).2
    have tf1 := (heap_at kb 1).2
    have tf2 := (heap_at kb 2).2
    have tf3 := (heap_at kb 3).2
    have y0 := (heap_at (unhide hK8) 0).1
    have y1 := (heap_at (unhide hK8) 1).1
    have y2 := (heap_at (unhide hK8) 2).1
    have y3 := (heap_at (unhide hK8) 3).1
    have r0 := (heap_at (unhide hK9) 0).1
    unfold sv4 at NS
    have JN := (unhide HPP).2
    clear kb hK8 hK9 hOW HPP LS HP HR hszj
    go_wp2_with fail
    go_roundw
    case rel => exact ⟨j + 1, ⟨la2, ln2, lc2⟩, ⟨fa2, fn2, fc2⟩, ⟨sa2, sn2, sc2⟩, hs2, pp.1, by go_num, JN, NS, HRN⟩
    case measure => simp [intOf]; omega
  case pos =>
   subst hj2
   have hdk : dk = lt2 d key := by
    rcases hjd with ⟨h, -⟩ | ⟨h, -⟩ | ⟨-, h⟩
    ·omega
    ·omega
    ·exact h
   subst hdk
   clear hjd
   have ls := unhide LS
   have LSB := hide ls.bel.size
   have q0 := (heap_at ls.box 0).1
   have q1 := (heap_at ls.box 1).1
   have q2 := (heap_at ls.box 2).1
   have q3 := (heap_at ls.box 3).1
   simp only [vzC, List.getElem?_toArray, List.getElem?_cons_zero, List.getElem?_cons_succ] at q0 q1 q2 q3
   have CA := hide (implTxStep_any (lt2 d key) _ ⟨6, 3, ⟨#[]⟩, ⟨#[]⟩, ⟨#[]⟩⟩ ⟨la1, ln1, lc1⟩ ⟨fa1, fn1, fc1⟩ ⟨sa1, sn1, sc1⟩ hs1 wr ls.own.reads (cap_of_owns (s := ⟨sa1, sn1, sc1⟩) ls.own.so.row).2 (unhide HR) (by omega) ⟨by show (⟨#[]⟩ : ByteArray).size ≤ 65536; decide, by show (⟨#[]⟩ : ByteArray).size ≤ 65536; decide, by show (⟨#[]⟩ : ByteArray).size ≤ 65536; decide⟩)
   have HR3 := hide (show RunV (lt3 d key) (60 + 2 + 1) from by
    have h := (unhide HR).step ⟨6, 3, ⟨#[]⟩, ⟨#[]⟩, ⟨#[]⟩⟩
    rwa [unhide P3] at h)
   unfold vzC xv at CA
   simp only at CA
   have hj2N : ¬ (((2 : Nat) : Int) < 2) := by decide
   clear ls
   go_wp2_with fail
   refine (unhide CA).mono ?_
   rintro e w5 ⟨⟨l3a, l3n, l3c⟩, ⟨f3a, f3n, f3c⟩, ⟨s3a, s3n, s3c⟩, hs3, ⟨r3a, r3n, r3c⟩, he, hO3, -, hb5⟩
   rw [unhide P3] at he hO3
   subst he
   unfold vzC
   simp only [repV, repC]
   rw [show (lt3 d key).next = d.next + 1 from rfl]
   have B5 := hide hb5
   have V3 := hide hO3.reads.vr
   clear q0 q1 q2 q3 CA hO3 hb5
   obtain ⟨U, hU⟩ : ∃ U, U = (w5.alloc (.cells #[.int .i64 (d.next + 1), .slice l3a l3n l3c, .slice f3a f3n f3c, .slice s3a s3n s3c] 29)).alloc (.cells #[.int .i64 0, .int .i64 d.next, .string ⟨#[]⟩, .slice r3a r3n r3c] 40) := ⟨_, rfl⟩
   obtain ⟨bU, k14, k15, -⟩ := twoBx hU
   go_upto_region 16 with fail
   rw [← hU]
   clear hU
   obtain ⟨rb, hrb⟩ : ∃ n, n = w5.heap.size + 1 := ⟨_, rfl⟩
   rw [← hrb] at k15 ⊢
   have y1 := (heap_at k14 1).1
   have z1 := (heap_at k15 1).1
   have hn3 := (unhide V3).1
   have hl3 : (insV d.list (ltX d key)).length ≤ 100 := by have h := (unhide HR3).cnt; exact Nat.le_trans (show (lt3 d key).list.length ≤ 63 by omega) (by decide)
   have hok3 : okVs (insV d.list (ltX d key)) = true := (unhide HR3).ok
   have CV := hide (implVersionAt_any l3a l3n l3c (insV d.list (ltX d key)) key d.next U (by have : (insV d.list (ltX d key)).length = l3n := hn3; omega) ((unhide V3).below bU))
   have hC : vaC (insV d.list (ltX d key)) key d.next = 0 := by
    unfold vaC
    rw [if_pos ⟨by omega, by omega⟩, if_pos hok3, unhide PV]
   have hVV : vaV (insV d.list (ltX d key)) key d.next = ltX d key := by
    unfold vaV
    rw [if_pos ⟨by omega, by omega, hok3⟩, unhide PV]
    rfl
   unfold VaRes at CV
   rw [hC, hVV] at CV
   unfold vv ltX at CV
   simp only at CV
   have K15 := hide k15
   have BUh := hide ((unhide B5).trans (bU.mono (unhide B5).size))
   have HRB := hide (show w5.heap.size < rb by omega)
   clear hn3 hl3 hok3 hC hVV V3 bU k14 hrb
   go_wp2_with fail
   refine (unhide CV).mono ?_
   rintro e w6 ⟨rfl, hb6⟩
   obtain ⟨Y, hY⟩ : ∃ Y, Y = w6.alloc (.cells #[.string key, .int .i64 d.next, .string exV, .bool false] 43) := ⟨_, rfl⟩
   have bY : Below U.heap.size U Y := hb6.trans (by rw [hY]; exact (Below.refl _ _).alloc hb6.size _)
   have kY : Y.heap[w6.heap.size]? = some (.cells #[.string key, .int .i64 d.next, .string exV, .bool false] 43 (0, 0)) := by rw [hY]; exact heap_alloc_new _ _
   have t1 := (heap_at kY 1).1
   have t2 := (heap_at kY 2).1
   have kR := (bY.block rb (blk_lt k15)).trans k15
   have z0' := (heap_at kR 0).1
   have z1' := (heap_at kR 1).1
   have BYh := hide ((unhide BUh).trans (bY.mono (unhide BUh).size))
   have KR := hide kR
   have LSY := hide ((unhide LS).below ((unhide BUh).trans (bY.mono (unhide BUh).size)))
   clear CV hb6 bY kY kR y1 z1 k15 LS
   go_upto_region 17 with fail
   rw [← hY]
   clear hY
   have hxx : (exV.toList != exV.toList) = false := by simp
   have htt : (d.next != d.next) = false := by simp
   have q3 := (heap_at (unhide LSY).box 3).1
   simp only [vzC, List.getElem?_toArray, List.getElem?_cons_zero, List.getElem?_cons_succ] at q3
   have hl4 : hs1.length = 4 := by
    have h1 := (unhide LSY).own.ss
    have h2 := (unhide HR).ses
    have h3 := congrArg List.length h1
    rw [List.length_map, h2] at h3
    exact h3
   obtain ⟨gs1, hgs1, hB1, ⟨c6, c7, c8⟩, hfz, hO0, hw0, ⟨cur0, hk0⟩⟩ := (unhide LSY).own.put (i := 2) (by omega) ⟨clS, nilS⟩ (World.ownsRow_nil _ _ _ _) (fun g hg => by cases hg)
   obtain ⟨-, -, hsn1, -⟩ := (unhide LSY).own.sesAt (i := 2) (by omega)
   simp only at hgs1 hsn1
   subst hgs1
   have hsn2I : (2 : Int) < (sn1 : Int) := by omega
   clear hsn1
   have f6 := hfz (2 * 3)
   have f7 := hfz (2 * 3 + 1)
   have f8 := hfz (2 * 3 + 2)
   obtain ⟨Z, hZ⟩ : ∃ Z, Z = ((Y.setCell ⟨gs1, 2 * 3, none⟩ (.bool clS.o)).setCell ⟨gs1, 2 * 3 + 1, none⟩ (.int .i64 clS.t)).setCell ⟨gs1, 2 * 3 + 1 + 1, none⟩ (.slice nilS.a nilS.n nilS.c) := ⟨_, rfl⟩
   simp only at hO0 hw0
   rw [← hZ] at hO0 hw0
   have kb0 := (unhide LSY).box
   have kbZ := (hw0.block vb (blk_lt kb0) (fun e => by rw [e, hk0] at kb0; injection kb0 with kb0; injection kb0 with _ kb0 _; exact absurd kb0 (by decide))).trans kb0
   have krZ := (hw0.block rb (blk_lt (unhide KR)) (fun e => by have h := unhide KR; rw [e, hk0] at h; injection h with h; injection h with _ h _; exact absurd h (by decide))).trans (unhide KR)
   have bZ := (unhide LSY).bel.trans (WrB.below hw0 (fun i e => by rw [e]; exact hB1) (unhide LSY).bel.size)
   have XL := xlit Z w1.heap.size bZ.size ltB #[.int .i64 1, .int .i64 2, .string ⟨#[]⟩, .string ⟨#[]⟩, .string ⟨#[]⟩, .int .i64 3, .int .i64 2, .string ⟨#[]⟩, .string ⟨#[]⟩, .string ⟨#[]⟩, .int .i64 6, .int .i64 3, .string ⟨#[]⟩, .string ⟨#[]⟩, .string ⟨#[]⟩] rfl (by decide)
   obtain ⟨V2, hV2⟩ : ∃ V2, V2 = Z.alloc (.cells #[.int .i64 1, .int .i64 2, .string ⟨#[]⟩, .string ⟨#[]⟩, .string ⟨#[]⟩, .int .i64 3, .int .i64 2, .string ⟨#[]⟩, .string ⟨#[]⟩, .string ⟨#[]⟩, .int .i64 6, .int .i64 3, .string ⟨#[]⟩, .string ⟨#[]⟩, .string ⟨#[]⟩] 37) := ⟨_, rfl⟩
   have bV2 : Below Z.heap.size Z V2 := by rw [hV2]; exact (Below.refl _ _).alloc (Nat.le_refl _) _
   rw [← hV2] at XL
   have LS0 := hide (show LvSt w1 V2 vb Z.heap.size ⟨la1, ln1, lc1⟩ ⟨fa1, fn1, fc1⟩ ⟨some ⟨gs1, 0, none⟩, sn1, sc1⟩ (hs1.set 2 ⟨clS, nilS⟩) (lt0 d key) ltB from ⟨bZ.trans (bV2.mono bZ.size), hO0.below bV2, (bV2.block vb (blk_lt kbZ)).trans kbZ, (unhide LSY).vge, XL⟩)
   have HR0 := hide (show RunV (lt0 d key) (70 + 0) from ((unhide HR).close (i := 2) (by decide)).more (by decide))
   have RB0 := hide (show ∃ (C T : Int) (V : ByteArray) (ra : Option Addr) (rn rc : Nat), ((0 : Nat) = 3 → C = 9) ∧ V2.heap[rb]? = some (.cells #[.int .i64 C, .int .i64 T, .string V, .slice ra rn rc] 40 (0, 0)) from ⟨0, d.next, ⟨#[]⟩, r3a, r3n, r3c, (fun h => (by cases h)), (bV2.block rb (blk_lt krZ)).trans krZ⟩)
   have HRG := hide (show w1.heap.size ≤ rb from by have h1 := (unhide HRB); have h2 := (unhide B5).size; have h3 := unhide LSB; omega)
   simp only [Nat.reduceMul, Nat.reduceAdd] at c6 c7 c8 f6 f7 f8
   simp only [Nat.reduceMul, Nat.reduceAdd, clS, nilS] at hZ
   obtain ⟨u6, c6'⟩ : ∃ v, Y.cell? ⟨gs1, 6, none⟩ = some v := ⟨_, c6⟩
   obtain ⟨u7, c7'⟩ : ∃ v, Y.cell? ⟨gs1, 7, none⟩ = some v := ⟨_, c7⟩
   obtain ⟨u8, c8'⟩ : ∃ v, Y.cell? ⟨gs1, 8, none⟩ = some v := ⟨_, c8⟩
   clear c6 c7 c8
   clear LSY KR kb0 kbZ krZ bZ XL bV2 hO0 hw0 hk0 hfz hB1 HR hl4 BYh BUh B5 HRB K15
   go_upto_region 20 with fail
   rw [← hZ]
   clear hZ t1 t2 z0' z1' q3 c6' c7' c8' f6 f7 f8 hxx htt hsn2I
   go_upto_region 21 with fail
   rw [← hV2]
   clear hV2
   generalize Z.heap.size = ab2 at *
   clear hj2N
   go_wp2_with fail
   go_loopw [20] (fun iv wr => ∃ (j : Nat) (l f s : Sl) (hs : List SeH) (D : VsD), iv = .int .i64 j ∧ ((j = 0 ∧ D = lt0 d key) ∨ (j = 1 ∧ D = lt4 d key) ∨ (j = 2 ∧ D = lt5 d key) ∨ (j = 3 ∧ D = lt6 d key)) ∧ Hid (LvSt w1 wr vb ab2 l f s hs D ltB) ∧ Hid (RunV D (70 + j)) ∧ Hid (∃ (C T : Int) (V : ByteArray) (ra : Option Addr) (rn rc : Nat), (j = 3 → C = 9) ∧ wr.heap[rb]? = some (.cells #[.int .i64 C, .int .i64 T, .string V, .slice ra rn rc] 40 (0, 0)))) (fun iv _ => 3 - (intOf iv).toNat)
   case atStart => exact ⟨0, _, _, _, _, lt0 d key, rfl, .inl ⟨rfl, rfl⟩, LS0, HR0, RB0⟩
   case round =>
    clear LS0 HR0 RB0
    obtain ⟨j, ⟨la1, ln1, lc1⟩, ⟨fa1, fn1, fc1⟩, ⟨sa1, sn1, sc1⟩, hs1, dk, rfl, hjd, LS, HR, RB⟩ := hrel
    by_cases hj2 : j = 3
    case neg =>
     have hja : j < ltB.length := by show j < 3; omega
     have hj2I : (j : Int) < 3 := by omega
     have hszj : (ltB[j]).key.size ≤ 65536 ∧ (ltB[j]).to.size ≤ 65536 ∧ (ltB[j]).val.size ≤ 65536 := by
      match j, hja with
      | 0, _ => exact ⟨by show (⟨#[]⟩ : ByteArray).size ≤ 65536; decide, by show (⟨#[]⟩ : ByteArray).size ≤ 65536; decide, by show (⟨#[]⟩ : ByteArray).size ≤ 65536; decide⟩
      | 1, _ => exact ⟨by show (⟨#[]⟩ : ByteArray).size ≤ 65536; decide, by show (⟨#[]⟩ : ByteArray).size ≤ 65536; decide, by show (⟨#[]⟩ : ByteArray).size ≤ 65536; decide⟩
      | 2, _ => exact ⟨by show (⟨#[]⟩ : ByteArray).size ≤ 65536; decide, by show (⟨#[]⟩ : ByteArray).size ≤ 65536; decide, by show (⟨#[]⟩ : ByteArray).size ≤ 65536; decide⟩
     obtain ⟨pp, hpp⟩ : ∃ p, p = stepV dk ltB[j] := ⟨_, rfl⟩
     have HPP := hide (show (j + 1 = 3 → pp.2.code = 9) ∧ ((j + 1 = 0 ∧ pp.1 = lt0 d key) ∨ (j + 1 = 1 ∧ pp.1 = lt4 d key) ∨ (j + 1 = 2 ∧ pp.1 = lt5 d key) ∨ (j + 1 = 3 ∧ pp.1 = lt6 d key)) by
      rcases hjd with ⟨hj0, hD⟩ | ⟨hj0, hD⟩ | ⟨hj0, hD⟩ | ⟨h, -⟩
      ·subst hj0
       have e : pp = (lt4 d key, repV 0 (d.next + 1)) := hpp.trans (by rw [hD]; exact unhide P4)
       rw [e]
       exact ⟨fun h => absurd h (by decide), .inr (.inl ⟨rfl, rfl⟩)⟩
      ·subst hj0
       obtain ⟨p5, h5⟩ := unhide P5
       have e : pp = (lt5 d key, p5) := hpp.trans (by rw [hD]; exact h5)
       rw [e]
       exact ⟨fun h => absurd h (by decide), .inr (.inr (.inl ⟨rfl, rfl⟩))⟩
      ·subst hj0
       have e : pp = (lt6 d key, repV 9 d.next) := hpp.trans (by rw [hD]; exact unhide P6)
       rw [e]
       exact ⟨fun _ => rfl, .inr (.inr (.inr ⟨rfl, rfl⟩))⟩
      ·exact absurd h hj2)
     have HRN := hide (show RunV pp.1 (70 + (j + 1)) by rw [hpp]; exact (unhide HR).step _)
     have HP := hide hpp.symm
     clear hpp hjd
     have ls := unhide LS
     have q0 := (heap_at ls.box 0).1
     have q1 := (heap_at ls.box 1).1
     have q2 := (heap_at ls.box 2).1
     have q3 := (heap_at ls.box 3).1
     have hvb := blk_lt ls.box
     obtain ⟨xb0, xo0, hxe, d0, d1, d2, d3, d4⟩ := (xrow_of_owns ls.acts).2 j hja
     injection hxe with hxe
     injection hxe with hx1 hx2 _
     subst hx1 hx2
     simp only [Nat.zero_add] at d0 d1 d2 d3 d4
     have hab := cell_lt d0
     have hwrW := ls.bel.size
     have CS := hide (fun (u : World) (hu : Below wr.heap.size wr u) => implTxStep_any dk _ (ltB)[j] ⟨la1, ln1, lc1⟩ ⟨fa1, fn1, fc1⟩ ⟨sa1, sn1, sc1⟩ hs1 u (ls.own.reads.below hu) (cap_of_owns (s := ⟨sa1, sn1, sc1⟩) ls.own.so.row).2 (unhide HR) (by omega) hszj)
     generalize (ltB)[j] = ac at *
     obtain ⟨xk, xs, xa, xb, xc⟩ := ac
     unfold vzC xv at CS
     simp only [vzC, List.getElem?_toArray, List.getElem?_cons_zero, List.getElem?_cons_succ] at d0 d1 d2 d3 d4 CS q0 q1 q2 q3
     have T00 := hide (show RgL w1 wr wr.drew pp none none none from ⟨(Below.refl _ _).drew, fun _ _ _ _ _ e => (by cases e), fun _ e => (by cases e), fun _ e => (by cases e)⟩)
     have SK := hide (show ∀ u, Below wr.heap.size wr u → (fun u : World => u.cell? ⟨vb, 0, none⟩ = some (.int .i64 dk.next) ∧ u.cell? ⟨vb, 1, none⟩ = some (.slice la1 ln1 lc1) ∧ u.cell? ⟨vb, 2, none⟩ = some (.slice fa1 fn1 fc1) ∧ u.cell? ⟨vb, 3, none⟩ = some (.slice sa1 sn1 sc1) ∧ u.cell? ⟨ab2, j * 5, none⟩ = some (.int .i64 xk) ∧ u.cell? ⟨ab2, j * 5 + 1, none⟩ = some (.int .i64 xs) ∧ u.cell? ⟨ab2, j * 5 + 2, none⟩ = some (.string xa) ∧ u.cell? ⟨ab2, j * 5 + 3, none⟩ = some (.string xb) ∧ u.cell? ⟨ab2, j * 5 + 4, none⟩ = some (.string xc)) u from fun u hu => ⟨(hu.cell (p := ⟨vb, 0, none⟩) hvb).trans q0, (hu.cell (p := ⟨vb, 1, none⟩) hvb).trans q1, (hu.cell (p := ⟨vb, 2, none⟩) hvb).trans q2, (hu.cell (p := ⟨vb, 3, none⟩) hvb).trans q3, (hu.cell (p := ⟨ab2, j * 5, none⟩) hab).trans d0, (hu.cell (p := ⟨ab2, j * 5 + 1, none⟩) hab).trans d1, (hu.cell (p := ⟨ab2, j * 5 + 2, none⟩) hab).trans d2, (hu.cell (p := ⟨ab2, j * 5 + 3, none⟩) hab).trans d3, (hu.cell (p := ⟨ab2, j * 5 + 4, none⟩) hab).trans d4⟩)
     clear d0 d1 d2 d3 d4 q0 q1 q2 q3 ls
     go_upto_region 24 with fail
     go_cut [21, 22, 23] (fun v8 v9 vc wc => ∃ (b8 b9 : Nat) (l' f' s' : Sl) (hs' : List SeH) (r : Sl), v8 = .pointer (some ⟨b8, 0, none⟩) ∧ v9 = .pointer (some ⟨b9, 0, none⟩) ∧ vc = .int .i64 0 ∧ Hid (wc.heap[b8]? = some (.cells #[.int .i64 pp.1.next, .slice l'.a l'.n l'.c, .slice f'.a f'.n f'.c, .slice s'.a s'.n s'.c] 29 (0, 0))) ∧ Hid (wc.heap[b9]? = some (.cells #[.int .i64 pp.2.code, .int .i64 pp.2.time, .string pp.2.val, .slice r.a r.n r.c] 40 (0, 0))) ∧ Hid (VzOwn wc w1.heap.size l' f' s' hs' pp.1) ∧ Hid (Below wr.heap.size wr wc) ∧ wr.heap.size ≤ b8 ∧ wr.heap.size ≤ b9)
     case first =>
      refine wp_region_held_drew (S := (fun u : World => u.cell? ⟨vb, 0, none⟩ = some (.int .i64 dk.next) ∧ u.cell? ⟨vb, 1, none⟩ = some (.slice la1 ln1 lc1) ∧ u.cell? ⟨vb, 2, none⟩ = some (.slice fa1 fn1 fc1) ∧ u.cell? ⟨vb, 3, none⟩ = some (.slice sa1 sn1 sc1) ∧ u.cell? ⟨ab2, j * 5, none⟩ = some (.int .i64 xk) ∧ u.cell? ⟨ab2, j * 5 + 1, none⟩ = some (.int .i64 xs) ∧ u.cell? ⟨ab2, j * 5 + 2, none⟩ = some (.string xa) ∧ u.cell? ⟨ab2, j * 5 + 3, none⟩ = some (.string xb) ∧ u.cell? ⟨ab2, j * 5 + 4, none⟩ = some (.string xc))) (by kernel_rfl) (unhide SK _ (unhide T00).bel) (fun hHeld => ?_)
      have Ts := T00
      clear T00
      generalize wr.drew = us at *
      refine tk 0 134 rfl rfl hHeld ?_
      simp only [Act.put, lA, lB, lC]
      refine tk 1 135 rfl rfl hHeld ?_
      simp only [Act.put, lA, lB, lC]
      refine tk 2 136 rfl rfl hHeld ?_
      simp only [Act.put, lA, lB, lC]
      refine tk 3 137 rfl rfl hHeld ?_
      simp only [Act.put, lA, lB, lC]
      refine tk 4 138 rfl rfl hHeld ?_
      simp only [Act.put, lA, lB, lC]
      refine wpAnyH_ready (rs := [5, 10, 11]) (by kernel_rfl) (by simp) ?_
      refine AllReadyH.cons rfl (fun K hK => ?_) (AllReadyH.cons rfl (fun K hK => ?_) (AllReadyH.cons rfl (fun K hK => ?_) AllReadyH.nil))
      ·go_simp
       refine (unhide CS _ (unhide Ts).bel).mono ?_
       intro e u5 hst
       obtain ⟨l', f', s', hs', r, rfl, hq⟩ := (unhide Ts).call hwrW (unhide HP) hst
       have T5 := hide hq
       clear hq hst
       refine hK.out _ _ (unhide SK _ (unhide T5).bel) (fun hHeld => ?_)
       clear hK K
       refine tk 6 133 rfl rfl hHeld ?_
       simp only [Act.put, lA, lB, lC]
       refine tk 7 140 rfl rfl hHeld ?_
       simp only [Act.put, lA, lB, lC]
       refine tk 8 141 rfl rfl hHeld ?_
       simp only [Act.put, lA, lB, lC]
       refine tk 9 142 rfl rfl hHeld ?_
       simp only [Act.put, lA, lB, lC]
       refine wpAnyH_ready (rs := [10, 11]) (by kernel_rfl) (by simp) ?_
       refine AllReadyH.cons rfl (fun K hK => ?_) (AllReadyH.cons rfl (fun K hK => ?_) AllReadyH.nil)
       ·have T5_10 := hide (unhide T5).lit8
        go_simp
        generalize u5.alloc (.cells #[.int .i64 0, .slice none 0 0, .slice none 0 0, .slice none 0 0] 29) = u5_10 at *
        generalize u5.heap.size = b8 at *
        refine hK.out _ _ (unhide SK _ (unhide T5_10).bel) (fun hHeld => ?_)
        clear hK K
        refine rd [11] (.cons rfl (fun K hK => ?_) .nil)
        have T5_10_11 := hide (unhide T5_10).lit9
        go_simp
        generalize u5_10.alloc (.cells #[.int .i64 0, .int .i64 0, .string ⟨#[]⟩, .slice none 0 0] 40) = u5_10_11 at *
        generalize u5_10.heap.size = b9 at *
        refine hK.out _ _ (unhide SK _ (unhide T5_10_11).bel) (fun hHeld => ?_)
        clear hK K
        refine rd [12] (.cons rfl (fun K hK => ?_) .nil)
        have hOw := (unhide T5_10_11).r l' f' s' hs' r rfl
        obtain ⟨h8, k8⟩ := (unhide T5_10_11).e8 b8 rfl
        obtain ⟨h9, k9⟩ := (unhide T5_10_11).e9 b9 rfl
        have c0 := (heap_at k8 0).1
        have c1 := (heap_at k8 1).1
        have c2 := (heap_at k8 2).1
        have c3 := (heap_at k8 3).1
        have cf0 := (heap_at k8 0).2
        have cf1 := (heap_at k8 1).2
        have cf2 := (heap_at k8 2).2
        have cf3 := (heap_at k8 3).2
        have h89 : b9 ≠ b8 := fun e => by rw [e, k8] at k9; injection k9 with k9; injection k9 with _ k9 _; exact absurd k9 (by decide)
        have hw : WrB (fun i => i = b8) u5_10_11 ((((u5_10_11.setCell ⟨b8, 0, none⟩ (.int .i64 pp.1.next)).setCell ⟨b8, 1, none⟩ (.slice l'.a l'.n l'.c)).setCell ⟨b8, 2, none⟩ (.slice f'.a f'.n f'.c)).setCell ⟨b8, 3, none⟩ (.slice s'.a s'.n s'.c)) := sv4_wr u5_10_11 b8 (.int .i64 pp.1.next) (.slice l'.a l'.n l'.c) (.slice f'.a f'.n f'.c) (.slice s'.a s'.n s'.c)
        have Q8 := hide (show ((((u5_10_11.setCell ⟨b8, 0, none⟩ (.int .i64 pp.1.next)).setCell ⟨b8, 1, none⟩ (.slice l'.a l'.n l'.c)).setCell ⟨b8, 2, none⟩ (.slice f'.a f'.n f'.c)).setCell ⟨b8, 3, none⟩ (.slice s'.a s'.n s'.c)).heap[b8]? = some (.cells #[.int .i64 pp.1.next, .slice l'.a l'.n l'.c, .slice f'.a f'.n f'.c, .slice s'.a s'.n s'.c] 29 (0, 0)) from sv4_heap k8 (.int .i64 pp.1.next) (.slice l'.a l'.n l'.c) (.slice f'.a f'.n f'.c) (.slice s'.a s'.n s'.c))
        have Q9 := hide (show ((((u5_10_11.setCell ⟨b8, 0, none⟩ (.int .i64 pp.1.next)).setCell ⟨b8, 1, none⟩ (.slice l'.a l'.n l'.c)).setCell ⟨b8, 2, none⟩ (.slice f'.a f'.n f'.c)).setCell ⟨b8, 3, none⟩ (.slice s'.a s'.n s'.c)).heap[b9]? = some (.cells #[.int .i64 0, .int .i64 0, .string ⟨#[]⟩, .slice none 0 0] 40 (0, 0)) from (hw.block b9 (blk_lt k9) h89).trans k9)
        have QO := hide (show VzOwn ((((u5_10_11.setCell ⟨b8, 0, none⟩ (.int .i64 pp.1.next)).setCell ⟨b8, 1, none⟩ (.slice l'.a l'.n l'.c)).setCell ⟨b8, 2, none⟩ (.slice f'.a f'.n f'.c)).setCell ⟨b8, 3, none⟩ (.slice s'.a s'.n s'.c)) w1.heap.size l' f' s' hs' pp.1 from hOw.box k8 (by decide) (by decide) (by decide) hw)
        have QB := hide (show Below wr.heap.size wr ((((u5_10_11.setCell ⟨b8, 0, none⟩ (.int .i64 pp.1.next)).setCell ⟨b8, 1, none⟩ (.slice l'.a l'.n l'.c)).setCell ⟨b8, 2, none⟩ (.slice f'.a f'.n f'.c)).setCell ⟨b8, 3, none⟩ (.slice s'.a s'.n s'.c)) from (unhide T5_10_11).bel.trans (WrB.below hw (fun i e => by rw [e]; exact h8) (unhide T5_10_11).bel.size))
        clear hw hOw k8 k9
        go_simp
        refine hK.out _ _ (unhide SK _ (unhide QB)) (fun hHeld => ?_)
        clear hK K
        clear c0 cf0 c1 cf1 c2 cf2 c3 cf3
        generalize ((((u5_10_11.setCell ⟨b8, 0, none⟩ (.int .i64 pp.1.next)).setCell ⟨b8, 1, none⟩ (.slice l'.a l'.n l'.c)).setCell ⟨b8, 2, none⟩ (.slice f'.a f'.n f'.c)).setCell ⟨b8, 3, none⟩ (.slice s'.a s'.n s'.c)) = ux at *
        refine rd [13] (.cons rfl (fun K hK => ?_) .nil)
        have c0 := (heap_at (unhide Q9) 0).1
        have c1 := (heap_at (unhide Q9) 1).1
        have c2 := (heap_at (unhide Q9) 2).1
        have c3 := (heap_at (unhide Q9) 3).1
        have cf0 := (heap_at (unhide Q9) 0).2
        have cf1 := (heap_at (unhide Q9) 1).2
        have cf2 := (heap_at (unhide Q9) 2).2
        have cf3 := (heap_at (unhide Q9) 3).2
        have hw : WrB (fun i => i = b9) ux ((((ux.setCell ⟨b9, 0, none⟩ (.int .i64 pp.2.code)).setCell ⟨b9, 1, none⟩ (.int .i64 pp.2.time)).setCell ⟨b9, 2, none⟩ (.string pp.2.val)).setCell ⟨b9, 3, none⟩ (.slice r.a r.n r.c)) := sv4_wr ux b9 (.int .i64 pp.2.code) (.int .i64 pp.2.time) (.string pp.2.val) (.slice r.a r.n r.c)
        have P9 := hide (show ((((ux.setCell ⟨b9, 0, none⟩ (.int .i64 pp.2.code)).setCell ⟨b9, 1, none⟩ (.int .i64 pp.2.time)).setCell ⟨b9, 2, none⟩ (.string pp.2.val)).setCell ⟨b9, 3, none⟩ (.slice r.a r.n r.c)).heap[b9]? = some (.cells #[.int .i64 pp.2.code, .int .i64 pp.2.time, .string pp.2.val, .slice r.a r.n r.c] 40 (0, 0)) from sv4_heap (unhide Q9) (.int .i64 pp.2.code) (.int .i64 pp.2.time) (.string pp.2.val) (.slice r.a r.n r.c))
        have P8 := hide (show ((((ux.setCell ⟨b9, 0, none⟩ (.int .i64 pp.2.code)).setCell ⟨b9, 1, none⟩ (.int .i64 pp.2.time)).setCell ⟨b9, 2, none⟩ (.string pp.2.val)).setCell ⟨b9, 3, none⟩ (.slice r.a r.n r.c)).heap[b8]? = some (.cells #[.int .i64 pp.1.next, .slice l'.a l'.n l'.c, .slice f'.a f'.n f'.c, .slice s'.a s'.n s'.c] 29 (0, 0)) from (hw.block b8 (blk_lt (unhide Q8)) (fun e => h89 e.symm)).trans (unhide Q8))
        have PO := hide (show VzOwn ((((ux.setCell ⟨b9, 0, none⟩ (.int .i64 pp.2.code)).setCell ⟨b9, 1, none⟩ (.int .i64 pp.2.time)).setCell ⟨b9, 2, none⟩ (.string pp.2.val)).setCell ⟨b9, 3, none⟩ (.slice r.a r.n r.c)) w1.heap.size l' f' s' hs' pp.1 from (unhide QO).box (unhide Q9) (by decide) (by decide) (by decide) hw)
        have PB := hide (show Below wr.heap.size wr ((((ux.setCell ⟨b9, 0, none⟩ (.int .i64 pp.2.code)).setCell ⟨b9, 1, none⟩ (.int .i64 pp.2.time)).setCell ⟨b9, 2, none⟩ (.string pp.2.val)).setCell ⟨b9, 3, none⟩ (.slice r.a r.n r.c)) from (unhide QB).trans (WrB.below hw (fun i e => by rw [e]; exact h9) (unhide QB).size))
        clear hw
        go_simp
        refine hK.out _ _ (unhide SK _ (unhide PB)) (fun hHeld => ?_)
        clear hK K
        refine tk 14 23 rfl rfl hHeld ?_
        simp only [Act.put, lA, lB, lC]
        refine wpAnyH_done (by kernel_rfl) ?_ _
        clear hHeld SK
        go_wp2_with fail
        go_meet
        case rel => exact ⟨b8, b9, l', f', s', hs', r, rfl, rfl, rfl, P8, P9, PO, PB, h8, h9⟩
       ·have T5_11 := hide (unhide T5).lit9
        go_simp
        generalize u5.alloc (.cells #[.int .i64 0, .int .i64 0, .string ⟨#[]⟩, .slice none 0 0] 40) = u5_11 at *
        generalize u5.heap.size = b9 at *
        refine hK.out _ _ (unhide SK _ (unhide T5_11).bel) (fun hHeld => ?_)
        clear hK K
        refine rd [10] (.cons rfl (fun K hK => ?_) .nil)
        have T5_11_10 := hide (unhide T5_11).lit8
        go_simp
        generalize u5_11.alloc (.cells #[.int .i64 0, .slice none 0 0, .slice none 0 0, .slice none 0 0] 29) = u5_11_10 at *
        generalize u5_11.heap.size = b8 at *
        refine hK.out _ _ (unhide SK _ (unhide T5_11_10).bel) (fun hHeld => ?_)
        clear hK K
        refine rd [12] (.cons rfl (fun K hK => ?_) .nil)
        have hOw := (unhide T5_11_10).r l' f' s' hs' r rfl
        obtain ⟨h8, k8⟩ := (unhide T5_11_10).e8 b8 rfl
        obtain ⟨h9, k9⟩ := (unhide T5_11_10).e9 b9 rfl
        have c0 := (heap_at k8 0).1
        have c1 := (heap_at k8 1).1
        have c2 := (heap_at k8 2).1
        have c3 := (heap_at k8 3).1
        have cf0 := (heap_at k8 0).2
        have cf1 := (heap_at k8 1).2
        have cf2 := (heap_at k8 2).2
        have cf3 := (heap_at k8 3).2
        have h89 : b9 ≠ b8 := fun e => by rw [e, k8] at k9; injection k9 with k9; injection k9 with _ k9 _; exact absurd k9 (by decide)
        have hw : WrB (fun i => i = b8) u5_11_10 ((((u5_11_10.setCell ⟨b8, 0, none⟩ (.int .i64 pp.1.next)).setCell ⟨b8, 1, none⟩ (.slice l'.a l'.n l'.c)).setCell ⟨b8, 2, none⟩ (.slice f'.a f'.n f'.c)).setCell ⟨b8, 3, none⟩ (.slice s'.a s'.n s'.c)) := sv4_wr u5_11_10 b8 (.int .i64 pp.1.next) (.slice l'.a l'.n l'.c) (.slice f'.a f'.n f'.c) (.slice s'.a s'.n s'.c)
        have Q8 := hide (show ((((u5_11_10.setCell ⟨b8, 0, none⟩ (.int .i64 pp.1.next)).setCell ⟨b8, 1, none⟩ (.slice l'.a l'.n l'.c)).setCell ⟨b8, 2, none⟩ (.slice f'.a f'.n f'.c)).setCell ⟨b8, 3, none⟩ (.slice s'.a s'.n s'.c)).heap[b8]? = some (.cells #[.int .i64 pp.1.next, .slice l'.a l'.n l'.c, .slice f'.a f'.n f'.c, .slice s'.a s'.n s'.c] 29 (0, 0)) from sv4_heap k8 (.int .i64 pp.1.next) (.slice l'.a l'.n l'.c) (.slice f'.a f'.n f'.c) (.slice s'.a s'.n s'.c))
        have Q9 := hide (show ((((u5_11_10.setCell ⟨b8, 0, none⟩ (.int .i64 pp.1.next)).setCell ⟨b8, 1, none⟩ (.slice l'.a l'.n l'.c)).setCell ⟨b8, 2, none⟩ (.slice f'.a f'.n f'.c)).setCell ⟨b8, 3, none⟩ (.slice s'.a s'.n s'.c)).heap[b9]? = some (.cells #[.int .i64 0, .int .i64 0, .string ⟨#[]⟩, .slice none 0 0] 40 (0, 0)) from (hw.block b9 (blk_lt k9) h89).trans k9)
        have QO := hide (show VzOwn ((((u5_11_10.setCell ⟨b8, 0, none⟩ (.int .i64 pp.1.next)).setCell ⟨b8, 1, none⟩ (.slice l'.a l'.n l'.c)).setCell ⟨b8, 2, none⟩ (.slice f'.a f'.n f'.c)).setCell ⟨b8, 3, none⟩ (.slice s'.a s'.n s'.c)) w1.heap.size l' f' s' hs' pp.1 from hOw.box k8 (by decide) (by decide) (by decide) hw)
        have QB := hide (show Below wr.heap.size wr ((((u5_11_10.setCell ⟨b8, 0, none⟩ (.int .i64 pp.1.next)).setCell ⟨b8, 1, none⟩ (.slice l'.a l'.n l'.c)).setCell ⟨b8, 2, none⟩ (.slice f'.a f'.n f'.c)).setCell ⟨b8, 3, none⟩ (.slice s'.a s'.n s'.c)) from (unhide T5_11_10).bel.trans (WrB.below hw (fun i e => by rw [e]; exact h8) (unhide T5_11_10).bel.size))
        clear hw hOw k8 k9
        go_simp
        refine hK.out _ _ (unhide SK _ (unhide QB)) (fun hHeld => ?_)
        clear hK K
        clear c0 cf0 c1 cf1 c2 cf2 c3 cf3
        generalize ((((u5_11_10.setCell ⟨b8, 0, none⟩ (.int .i64 pp.1.next)).setCell ⟨b8, 1, none⟩ (.slice l'.a l'.n l'.c)).setCell ⟨b8, 2, none⟩ (.slice f'.a f'.n f'.c)).setCell ⟨b8, 3, none⟩ (.slice s'.a s'.n s'.c)) = ux at *
        refine rd [13] (.cons rfl (fun K hK => ?_) .nil)
        have c0 := (heap_at (unhide Q9) 0).1
        have c1 := (heap_at (unhide Q9) 1).1
        have c2 := (heap_at (unhide Q9) 2).1
        have c3 := (heap_at (unhide Q9) 3).1
        have cf0 := (heap_at (unhide Q9) 0).2
        have cf1 := (heap_at (unhide Q9) 1).2
        have cf2 := (heap_at (unhide Q9) 2).2
        have cf3 := (heap_at (unhide Q9) 3).2
        have hw : WrB (fun i => i = b9) ux ((((ux.setCell ⟨b9, 0, none⟩ (.int .i64 pp.2.code)).setCell ⟨b9, 1, none⟩ (.int .i64 pp.2.time)).setCell ⟨b9, 2, none⟩ (.string pp.2.val)).setCell ⟨b9, 3, none⟩ (.slice r.a r.n r.c)) := sv4_wr ux b9 (.int .i64 pp.2.code) (.int .i64 pp.2.time) (.string pp.2.val) (.slice r.a r.n r.c)
        have P9 := hide (show ((((ux.setCell ⟨b9, 0, none⟩ (.int .i64 pp.2.code)).setCell ⟨b9, 1, none⟩ (.int .i64 pp.2.time)).setCell ⟨b9, 2, none⟩ (.string pp.2.val)).setCell ⟨b9, 3, none⟩ (.slice r.a r.n r.c)).heap[b9]? = some (.cells #[.int .i64 pp.2.code, .int .i64 pp.2.time, .string pp.2.val, .slice r.a r.n r.c] 40 (0, 0)) from sv4_heap (unhide Q9) (.int .i64 pp.2.code) (.int .i64 pp.2.time) (.string pp.2.val) (.slice r.a r.n r.c))
        have P8 := hide (show ((((ux.setCell ⟨b9, 0, none⟩ (.int .i64 pp.2.code)).setCell ⟨b9, 1, none⟩ (.int .i64 pp.2.time)).setCell ⟨b9, 2, none⟩ (.string pp.2.val)).setCell ⟨b9, 3, none⟩ (.slice r.a r.n r.c)).heap[b8]? = some (.cells #[.int .i64 pp.1.next, .slice l'.a l'.n l'.c, .slice f'.a f'.n f'.c, .slice s'.a s'.n s'.c] 29 (0, 0)) from (hw.block b8 (blk_lt (unhide Q8)) (fun e => h89 e.symm)).trans (unhide Q8))
        have PO := hide (show VzOwn ((((ux.setCell ⟨b9, 0, none⟩ (.int .i64 pp.2.code)).setCell ⟨b9, 1, none⟩ (.int .i64 pp.2.time)).setCell ⟨b9, 2, none⟩ (.string pp.2.val)).setCell ⟨b9, 3, none⟩ (.slice r.a r.n r.c)) w1.heap.size l' f' s' hs' pp.1 from (unhide QO).box (unhide Q9) (by decide) (by decide) (by decide) hw)
        have PB := hide (show Below wr.heap.size wr ((((ux.setCell ⟨b9, 0, none⟩ (.int .i64 pp.2.code)).setCell ⟨b9, 1, none⟩ (.int .i64 pp.2.time)).setCell ⟨b9, 2, none⟩ (.string pp.2.val)).setCell ⟨b9, 3, none⟩ (.slice r.a r.n r.c)) from (unhide QB).trans (WrB.below hw (fun i e => by rw [e]; exact h9) (unhide QB).size))
        clear hw
        go_simp
        refine hK.out _ _ (unhide SK _ (unhide PB)) (fun hHeld => ?_)
        clear hK K
        refine tk 14 23 rfl rfl hHeld ?_
        simp only [Act.put, lA, lB, lC]
        refine wpAnyH_done (by kernel_rfl) ?_ _
        clear hHeld SK
        go_wp2_with fail
        go_meet
        case rel => exact ⟨b8, b9, l', f', s', hs', r, rfl, rfl, rfl, P8, P9, PO, PB, h8, h9⟩
      ·have T10 := hide (unhide Ts).lit8
       go_simp
       generalize us.alloc (.cells #[.int .i64 0, .slice none 0 0, .slice none 0 0, .slice none 0 0] 29) = u10 at *
       generalize us.heap.size = b8 at *
       refine hK.out _ _ (unhide SK _ (unhide T10).bel) (fun hHeld => ?_)
       clear hK K
       refine wpAnyH_ready (rs := [5, 11]) (by kernel_rfl) (by simp) ?_
       refine AllReadyH.cons rfl (fun K hK => ?_) (AllReadyH.cons rfl (fun K hK => ?_) AllReadyH.nil)
       ·go_simp
        refine (unhide CS _ (unhide T10).bel).mono ?_
        intro e u10_5 hst
        obtain ⟨l', f', s', hs', r, rfl, hq⟩ := (unhide T10).call hwrW (unhide HP) hst
        have T10_5 := hide hq
        clear hq hst
        refine hK.out _ _ (unhide SK _ (unhide T10_5).bel) (fun hHeld => ?_)
        clear hK K
        refine tk 6 133 rfl rfl hHeld ?_
        simp only [Act.put, lA, lB, lC]
        refine tk 7 140 rfl rfl hHeld ?_
        simp only [Act.put, lA, lB, lC]
        refine tk 8 141 rfl rfl hHeld ?_
        simp only [Act.put, lA, lB, lC]
        refine tk 9 142 rfl rfl hHeld ?_
        simp only [Act.put, lA, lB, lC]
        refine rd [11] (.cons rfl (fun K hK => ?_) .nil)
        have T10_5_11 := hide (unhide T10_5).lit9
        go_simp
        generalize u10_5.alloc (.cells #[.int .i64 0, .int .i64 0, .string ⟨#[]⟩, .slice none 0 0] 40) = u10_5_11 at *
        generalize u10_5.heap.size = b9 at *
        refine hK.out _ _ (unhide SK _ (unhide T10_5_11).bel) (fun hHeld => ?_)
        clear hK K
        refine rd [12] (.cons rfl (fun K hK => ?_) .nil)
        have hOw := (unhide T10_5_11).r l' f' s' hs' r rfl
        obtain ⟨h8, k8⟩ := (unhide T10_5_11).e8 b8 rfl
        obtain ⟨h9, k9⟩ := (unhide T10_5_11).e9 b9 rfl
        have c0 := (heap_at k8 0).1
        have c1 := (heap_at k8 1).1
        have c2 := (heap_at k8 2).1
        have c3 := (heap_at k8 3).1
        have cf0 := (heap_at k8 0).2
        have cf1 := (heap_at k8 1).2
        have cf2 := (heap_at k8 2).2
        have cf3 := (heap_at k8 3).2
        have h89 : b9 ≠ b8 := fun e => by rw [e, k8] at k9; injection k9 with k9; injection k9 with _ k9 _; exact absurd k9 (by decide)
        have hw : WrB (fun i => i = b8) u10_5_11 ((((u10_5_11.setCell ⟨b8, 0, none⟩ (.int .i64 pp.1.next)).setCell ⟨b8, 1, none⟩ (.slice l'.a l'.n l'.c)).setCell ⟨b8, 2, none⟩ (.slice f'.a f'.n f'.c)).setCell ⟨b8, 3, none⟩ (.slice s'.a s'.n s'.c)) := sv4_wr u10_5_11 b8 (.int .i64 pp.1.next) (.slice l'.a l'.n l'.c) (.slice f'.a f'.n f'.c) (.slice s'.a s'.n s'.c)
        have Q8 := hide (show ((((u10_5_11.setCell ⟨b8, 0, none⟩ (.int .i64 pp.1.next)).setCell ⟨b8, 1, none⟩ (.slice l'.a l'.n l'.c)).setCell ⟨b8, 2, none⟩ (.slice f'.a f'.n f'.c)).setCell ⟨b8, 3, none⟩ (.slice s'.a s'.n s'.c)).heap[b8]? = some (.cells #[.int .i64 pp.1.next, .slice l'.a l'.n l'.c, .slice f'.a f'.n f'.c, .slice s'.a s'.n s'.c] 29 (0, 0)) from sv4_heap k8 (.int .i64 pp.1.next) (.slice l'.a l'.n l'.c) (.slice f'.a f'.n f'.c) (.slice s'.a s'.n s'.c))
        have Q9 := hide (show ((((u10_5_11.setCell ⟨b8, 0, none⟩ (.int .i64 pp.1.next)).setCell ⟨b8, 1, none⟩ (.slice l'.a l'.n l'.c)).setCell ⟨b8, 2, none⟩ (.slice f'.a f'.n f'.c)).setCell ⟨b8, 3, none⟩ (.slice s'.a s'.n s'.c)).heap[b9]? = some (.cells #[.int .i64 0, .int .i64 0, .string ⟨#[]⟩, .slice none 0 0] 40 (0, 0)) from (hw.block b9 (blk_lt k9) h89).trans k9)
        have QO := hide (show VzOwn ((((u10_5_11.setCell ⟨b8, 0, none⟩ (.int .i64 pp.1.next)).setCell ⟨b8, 1, none⟩ (.slice l'.a l'.n l'.c)).setCell ⟨b8, 2, none⟩ (.slice f'.a f'.n f'.c)).setCell ⟨b8, 3, none⟩ (.slice s'.a s'.n s'.c)) w1.heap.size l' f' s' hs' pp.1 from hOw.box k8 (by decide) (by decide) (by decide) hw)
        have QB := hide (show Below wr.heap.size wr ((((u10_5_11.setCell ⟨b8, 0, none⟩ (.int .i64 pp.1.next)).setCell ⟨b8, 1, none⟩ (.slice l'.a l'.n l'.c)).setCell ⟨b8, 2, none⟩ (.slice f'.a f'.n f'.c)).setCell ⟨b8, 3, none⟩ (.slice s'.a s'.n s'.c)) from (unhide T10_5_11).bel.trans (WrB.below hw (fun i e => by rw [e]; exact h8) (unhide T10_5_11).bel.size))
        clear hw hOw k8 k9
        go_simp
        refine hK.out _ _ (unhide SK _ (unhide QB)) (fun hHeld => ?_)
        clear hK K
        clear c0 cf0 c1 cf1 c2 cf2 c3 cf3
        generalize ((((u10_5_11.setCell ⟨b8, 0, none⟩ (.int .i64 pp.1.next)).setCell ⟨b8, 1, none⟩ (.slice l'.a l'.n l'.c)).setCell ⟨b8, 2, none⟩ (.slice f'.a f'.n f'.c)).setCell ⟨b8, 3, none⟩ (.slice s'.a s'.n s'.c)) = ux at *
        refine rd [13] (.cons rfl (fun K hK => ?_) .nil)
        have c0 := (heap_at (unhide Q9) 0).1
        have c1 := (heap_at (unhide Q9) 1).1
        have c2 := (heap_at (unhide Q9) 2).1
        have c3 := (heap_at (unhide Q9) 3).1
        have cf0 := (heap_at (unhide Q9) 0).2
        have cf1 := (heap_at (unhide Q9) 1).2
        have cf2 := (heap_at (unhide Q9) 2).2
        have cf3 := (heap_at (unhide Q9) 3).2
        have hw : WrB (fun i => i = b9) ux ((((ux.setCell ⟨b9, 0, none⟩ (.int .i64 pp.2.code)).setCell ⟨b9, 1, none⟩ (.int .i64 pp.2.time)).setCell ⟨b9, 2, none⟩ (.string pp.2.val)).setCell ⟨b9, 3, none⟩ (.slice r.a r.n r.c)) := sv4_wr ux b9 (.int .i64 pp.2.code) (.int .i64 pp.2.time) (.string pp.2.val) (.slice r.a r.n r.c)
        have P9 := hide (show ((((ux.setCell ⟨b9, 0, none⟩ (.int .i64 pp.2.code)).setCell ⟨b9, 1, none⟩ (.int .i64 pp.2.time)).setCell ⟨b9, 2, none⟩ (.string pp.2.val)).setCell ⟨b9, 3, none⟩ (.slice r.a r.n r.c)).heap[b9]? = some (.cells #[.int .i64 pp.2.code, .int .i64 pp.2.time, .string pp.2.val, .slice r.a r.n r.c] 40 (0, 0)) from sv4_heap (unhide Q9) (.int .i64 pp.2.code) (.int .i64 pp.2.time) (.string pp.2.val) (.slice r.a r.n r.c))
        have P8 := hide (show ((((ux.setCell ⟨b9, 0, none⟩ (.int .i64 pp.2.code)).setCell ⟨b9, 1, none⟩ (.int .i64 pp.2.time)).setCell ⟨b9, 2, none⟩ (.string pp.2.val)).setCell ⟨b9, 3, none⟩ (.slice r.a r.n r.c)).heap[b8]? = some (.cells #[.int .i64 pp.1.next, .slice l'.a l'.n l'.c, .slice f'.a f'.n f'.c, .slice s'.a s'.n s'.c] 29 (0, 0)) from (hw.block b8 (blk_lt (unhide Q8)) (fun e => h89 e.symm)).trans (unhide Q8))
        have PO := hide (show VzOwn ((((ux.setCell ⟨b9, 0, none⟩ (.int .i64 pp.2.code)).setCell ⟨b9, 1, none⟩ (.int .i64 pp.2.time)).setCell ⟨b9, 2, none⟩ (.string pp.2.val)).setCell ⟨b9, 3, none⟩ (.slice r.a r.n r.c)) w1.heap.size l' f' s' hs' pp.1 from (unhide QO).box (unhide Q9) (by decide) (by decide) (by decide) hw)
        have PB := hide (show Below wr.heap.size wr ((((ux.setCell ⟨b9, 0, none⟩ (.int .i64 pp.2.code)).setCell ⟨b9, 1, none⟩ (.int .i64 pp.2.time)).setCell ⟨b9, 2, none⟩ (.string pp.2.val)).setCell ⟨b9, 3, none⟩ (.slice r.a r.n r.c)) from (unhide QB).trans (WrB.below hw (fun i e => by rw [e]; exact h9) (unhide QB).size))
        clear hw
        go_simp
        refine hK.out _ _ (unhide SK _ (unhide PB)) (fun hHeld => ?_)
        clear hK K
        refine tk 14 23 rfl rfl hHeld ?_
        simp only [Act.put, lA, lB, lC]
        refine wpAnyH_done (by kernel_rfl) ?_ _
        clear hHeld SK
        go_wp2_with fail
        go_meet
        case rel => exact ⟨b8, b9, l', f', s', hs', r, rfl, rfl, rfl, P8, P9, PO, PB, h8, h9⟩
       ·have T10_11 := hide (unhide T10).lit9
        go_simp
        generalize u10.alloc (.cells #[.int .i64 0, .int .i64 0, .string ⟨#[]⟩, .slice none 0 0] 40) = u10_11 at *
        generalize u10.heap.size = b9 at *
        refine hK.out _ _ (unhide SK _ (unhide T10_11).bel) (fun hHeld => ?_)
        clear hK K
        refine rd [5] (.cons rfl (fun K hK => ?_) .nil)
        go_simp
        refine (unhide CS _ (unhide T10_11).bel).mono ?_
        intro e u10_11_5 hst
        obtain ⟨l', f', s', hs', r, rfl, hq⟩ := (unhide T10_11).call hwrW (unhide HP) hst
        have T10_11_5 := hide hq
        clear hq hst
        refine hK.out _ _ (unhide SK _ (unhide T10_11_5).bel) (fun hHeld => ?_)
        clear hK K
        refine tk 6 133 rfl rfl hHeld ?_
        simp only [Act.put, lA, lB, lC]
        refine tk 7 140 rfl rfl hHeld ?_
        simp only [Act.put, lA, lB, lC]
        refine tk 8 141 rfl rfl hHeld ?_
        simp only [Act.put, lA, lB, lC]
        refine tk 9 142 rfl rfl hHeld ?_
        simp only [Act.put, lA, lB, lC]
        refine rd [12] (.cons rfl (fun K hK => ?_) .nil)
        have hOw := (unhide T10_11_5).r l' f' s' hs' r rfl
        obtain ⟨h8, k8⟩ := (unhide T10_11_5).e8 b8 rfl
        obtain ⟨h9, k9⟩ := (unhide T10_11_5).e9 b9 rfl
        have c0 := (heap_at k8 0).1
        have c1 := (heap_at k8 1).1
        have c2 := (heap_at k8 2).1
        have c3 := (heap_at k8 3).1
        have cf0 := (heap_at k8 0).2
        have cf1 := (heap_at k8 1).2
        have cf2 := (heap_at k8 2).2
        have cf3 := (heap_at k8 3).2
        have h89 : b9 ≠ b8 := fun e => by rw [e, k8] at k9; injection k9 with k9; injection k9 with _ k9 _; exact absurd k9 (by decide)
        have hw : WrB (fun i => i = b8) u10_11_5 ((((u10_11_5.setCell ⟨b8, 0, none⟩ (.int .i64 pp.1.next)).setCell ⟨b8, 1, none⟩ (.slice l'.a l'.n l'.c)).setCell ⟨b8, 2, none⟩ (.slice f'.a f'.n f'.c)).setCell ⟨b8, 3, none⟩ (.slice s'.a s'.n s'.c)) := sv4_wr u10_11_5 b8 (.int .i64 pp.1.next) (.slice l'.a l'.n l'.c) (.slice f'.a f'.n f'.c) (.slice s'.a s'.n s'.c)
        have Q8 := hide (show ((((u10_11_5.setCell ⟨b8, 0, none⟩ (.int .i64 pp.1.next)).setCell ⟨b8, 1, none⟩ (.slice l'.a l'.n l'.c)).setCell ⟨b8, 2, none⟩ (.slice f'.a f'.n f'.c)).setCell ⟨b8, 3, none⟩ (.slice s'.a s'.n s'.c)).heap[b8]? = some (.cells #[.int .i64 pp.1.next, .slice l'.a l'.n l'.c, .slice f'.a f'.n f'.c, .slice s'.a s'.n s'.c] 29 (0, 0)) from sv4_heap k8 (.int .i64 pp.1.next) (.slice l'.a l'.n l'.c) (.slice f'.a f'.n f'.c) (.slice s'.a s'.n s'.c))
        have Q9 := hide (show ((((u10_11_5.setCell ⟨b8, 0, none⟩ (.int .i64 pp.1.next)).setCell ⟨b8, 1, none⟩ (.slice l'.a l'.n l'.c)).setCell ⟨b8, 2, none⟩ (.slice f'.a f'.n f'.c)).setCell ⟨b8, 3, none⟩ (.slice s'.a s'.n s'.c)).heap[b9]? = some (.cells #[.int .i64 0, .int .i64 0, .string ⟨#[]⟩, .slice none 0 0] 40 (0, 0)) from (hw.block b9 (blk_lt k9) h89).trans k9)
        have QO := hide (show VzOwn ((((u10_11_5.setCell ⟨b8, 0, none⟩ (.int .i64 pp.1.next)).setCell ⟨b8, 1, none⟩ (.slice l'.a l'.n l'.c)).setCell ⟨b8, 2, none⟩ (.slice f'.a f'.n f'.c)).setCell ⟨b8, 3, none⟩ (.slice s'.a s'.n s'.c)) w1.heap.size l' f' s' hs' pp.1 from hOw.box k8 (by decide) (by decide) (by decide) hw)
        have QB := hide (show Below wr.heap.size wr ((((u10_11_5.setCell ⟨b8, 0, none⟩ (.int .i64 pp.1.next)).setCell ⟨b8, 1, none⟩ (.slice l'.a l'.n l'.c)).setCell ⟨b8, 2, none⟩ (.slice f'.a f'.n f'.c)).setCell ⟨b8, 3, none⟩ (.slice s'.a s'.n s'.c)) from (unhide T10_11_5).bel.trans (WrB.below hw (fun i e => by rw [e]; exact h8) (unhide T10_11_5).bel.size))
        clear hw hOw k8 k9
        go_simp
        refine hK.out _ _ (unhide SK _ (unhide QB)) (fun hHeld => ?_)
        clear hK K
        clear c0 cf0 c1 cf1 c2 cf2 c3 cf3
        generalize ((((u10_11_5.setCell ⟨b8, 0, none⟩ (.int .i64 pp.1.next)).setCell ⟨b8, 1, none⟩ (.slice l'.a l'.n l'.c)).setCell ⟨b8, 2, none⟩ (.slice f'.a f'.n f'.c)).setCell ⟨b8, 3, none⟩ (.slice s'.a s'.n s'.c)) = ux at *
        refine rd [13] (.cons rfl (fun K hK => ?_) .nil)
        have c0 := (heap_at (unhide Q9) 0).1
        have c1 := (heap_at (unhide Q9) 1).1
        have c2 := (heap_at (unhide Q9) 2).1
        have c3 := (heap_at (unhide Q9) 3).1
        have cf0 := (heap_at (unhide Q9) 0).2
        have cf1 := (heap_at (unhide Q9) 1).2
        have cf2 := (heap_at (unhide Q9) 2).2
        have cf3 := (heap_at (unhide Q9) 3).2
        have hw : WrB (fun i => i = b9) ux ((((ux.setCell ⟨b9, 0, none⟩ (.int .i64 pp.2.code)).setCell ⟨b9, 1, none⟩ (.int .i64 pp.2.time)).setCell ⟨b9, 2, none⟩ (.string pp.2.val)).setCell ⟨b9, 3, none⟩ (.slice r.a r.n r.c)) := sv4_wr ux b9 (.int .i64 pp.2.code) (.int .i64 pp.2.time) (.string pp.2.val) (.slice r.a r.n r.c)
        have P9 := hide (show ((((ux.setCell ⟨b9, 0, none⟩ (.int .i64 pp.2.code)).setCell ⟨b9, 1, none⟩ (.int .i64 pp.2.time)).setCell ⟨b9, 2, none⟩ (.string pp.2.val)).setCell ⟨b9, 3, none⟩ (.slice r.a r.n r.c)).heap[b9]? = some (.cells #[.int .i64 pp.2.code, .int .i64 pp.2.time, .string pp.2.val, .slice r.a r.n r.c] 40 (0, 0)) from sv4_heap (unhide Q9) (.int .i64 pp.2.code) (.int .i64 pp.2.time) (.string pp.2.val) (.slice r.a r.n r.c))
        have P8 := hide (show ((((ux.setCell ⟨b9, 0, none⟩ (.int .i64 pp.2.code)).setCell ⟨b9, 1, none⟩ (.int .i64 pp.2.time)).setCell ⟨b9, 2, none⟩ (.string pp.2.val)).setCell ⟨b9, 3, none⟩ (.slice r.a r.n r.c)).heap[b8]? = some (.cells #[.int .i64 pp.1.next, .slice l'.a l'.n l'.c, .slice f'.a f'.n f'.c, .slice s'.a s'.n s'.c] 29 (0, 0)) from (hw.block b8 (blk_lt (unhide Q8)) (fun e => h89 e.symm)).trans (unhide Q8))
        have PO := hide (show VzOwn ((((ux.setCell ⟨b9, 0, none⟩ (.int .i64 pp.2.code)).setCell ⟨b9, 1, none⟩ (.int .i64 pp.2.time)).setCell ⟨b9, 2, none⟩ (.string pp.2.val)).setCell ⟨b9, 3, none⟩ (.slice r.a r.n r.c)) w1.heap.size l' f' s' hs' pp.1 from (unhide QO).box (unhide Q9) (by decide) (by decide) (by decide) hw)
        have PB := hide (show Below wr.heap.size wr ((((ux.setCell ⟨b9, 0, none⟩ (.int .i64 pp.2.code)).setCell ⟨b9, 1, none⟩ (.int .i64 pp.2.time)).setCell ⟨b9, 2, none⟩ (.string pp.2.val)).setCell ⟨b9, 3, none⟩ (.slice r.a r.n r.c)) from (unhide QB).trans (WrB.below hw (fun i e => by rw [e]; exact h9) (unhide QB).size))
        clear hw
        go_simp
        refine hK.out _ _ (unhide SK _ (unhide PB)) (fun hHeld => ?_)
        clear hK K
        refine tk 14 23 rfl rfl hHeld ?_
        simp only [Act.put, lA, lB, lC]
        refine wpAnyH_done (by kernel_rfl) ?_ _
        clear hHeld SK
        go_wp2_with fail
        go_meet
        case rel => exact ⟨b8, b9, l', f', s', hs', r, rfl, rfl, rfl, P8, P9, PO, PB, h8, h9⟩
      ·have T11 := hide (unhide Ts).lit9
       go_simp
       generalize us.alloc (.cells #[.int .i64 0, .int .i64 0, .string ⟨#[]⟩, .slice none 0 0] 40) = u11 at *
       generalize us.heap.size = b9 at *
       refine hK.out _ _ (unhide SK _ (unhide T11).bel) (fun hHeld => ?_)
       clear hK K
       refine wpAnyH_ready (rs := [5, 10]) (by kernel_rfl) (by simp) ?_
       refine AllReadyH.cons rfl (fun K hK => ?_) (AllReadyH.cons rfl (fun K hK => ?_) AllReadyH.nil)
       ·go_simp
        refine (unhide CS _ (unhide T11).bel).mono ?_
        intro e u11_5 hst
        obtain ⟨l', f', s', hs', r, rfl, hq⟩ := (unhide T11).call hwrW (unhide HP) hst
        have T11_5 := hide hq
        clear hq hst
        refine hK.out _ _ (unhide SK _ (unhide T11_5).bel) (fun hHeld => ?_)
        clear hK K
        refine tk 6 133 rfl rfl hHeld ?_
        simp only [Act.put, lA, lB, lC]
        refine tk 7 140 rfl rfl hHeld ?_
        simp only [Act.put, lA, lB, lC]
        refine tk 8 141 rfl rfl hHeld ?_
        simp only [Act.put, lA, lB, lC]
        refine tk 9 142 rfl rfl hHeld ?_
        simp only [Act.put, lA, lB, lC]
        refine rd [10] (.cons rfl (fun K hK => ?_) .nil)
        have T11_5_10 := hide (unhide T11_5).lit8
        go_simp
        generalize u11_5.alloc (.cells #[.int .i64 0, .slice none 0 0, .slice none 0 0, .slice none 0 0] 29) = u11_5_10 at *
        generalize u11_5.heap.size = b8 at *
        refine hK.out _ _ (unhide SK _ (unhide T11_5_10).bel) (fun hHeld => ?_)
        clear hK K
        refine rd [12] (.cons rfl (fun K hK => ?_) .nil)
        have hOw := (unhide T11_5_10).r l' f' s' hs' r rfl
        obtain ⟨h8, k8⟩ := (unhide T11_5_10).e8 b8 rfl
        obtain ⟨h9, k9⟩ := (unhide T11_5_10).e9 b9 rfl
        have c0 := (heap_at k8 0).1
        have c1 := (heap_at k8 1).1
        have c2 := (heap_at k8 2).1
        have c3 := (heap_at k8 3).1
        have cf0 := (heap_at k8 0).2
        have cf1 := (heap_at k8 1).2
        have cf2 := (heap_at k8 2).2
        have cf3 := (heap_at k8 3).2
        have h89 : b9 ≠ b8 := fun e => by rw [e, k8] at k9; injection k9 with k9; injection k9 with _ k9 _; exact absurd k9 (by decide)
        have hw : WrB (fun i => i = b8) u11_5_10 ((((u11_5_10.setCell ⟨b8, 0, none⟩ (.int .i64 pp.1.next)).setCell ⟨b8, 1, none⟩ (.slice l'.a l'.n l'.c)).setCell ⟨b8, 2, none⟩ (.slice f'.a f'.n f'.c)).setCell ⟨b8, 3, none⟩ (.slice s'.a s'.n s'.c)) := sv4_wr u11_5_10 b8 (.int .i64 pp.1.next) (.slice l'.a l'.n l'.c) (.slice f'.a f'.n f'.c) (.slice s'.a s'.n s'.c)
        have Q8 := hide (show ((((u11_5_10.setCell ⟨b8, 0, none⟩ (.int .i64 pp.1.next)).setCell ⟨b8, 1, none⟩ (.slice l'.a l'.n l'.c)).setCell ⟨b8, 2, none⟩ (.slice f'.a f'.n f'.c)).setCell ⟨b8, 3, none⟩ (.slice s'.a s'.n s'.c)).heap[b8]? = some (.cells #[.int .i64 pp.1.next, .slice l'.a l'.n l'.c, .slice f'.a f'.n f'.c, .slice s'.a s'.n s'.c] 29 (0, 0)) from sv4_heap k8 (.int .i64 pp.1.next) (.slice l'.a l'.n l'.c) (.slice f'.a f'.n f'.c) (.slice s'.a s'.n s'.c))
        have Q9 := hide (show ((((u11_5_10.setCell ⟨b8, 0, none⟩ (.int .i64 pp.1.next)).setCell ⟨b8, 1, none⟩ (.slice l'.a l'.n l'.c)).setCell ⟨b8, 2, none⟩ (.slice f'.a f'.n f'.c)).setCell ⟨b8, 3, none⟩ (.slice s'.a s'.n s'.c)).heap[b9]? = some (.cells #[.int .i64 0, .int .i64 0, .string ⟨#[]⟩, .slice none 0 0] 40 (0, 0)) from (hw.block b9 (blk_lt k9) h89).trans k9)
        have QO := hide (show VzOwn ((((u11_5_10.setCell ⟨b8, 0, none⟩ (.int .i64 pp.1.next)).setCell ⟨b8, 1, none⟩ (.slice l'.a l'.n l'.c)).setCell ⟨b8, 2, none⟩ (.slice f'.a f'.n f'.c)).setCell ⟨b8, 3, none⟩ (.slice s'.a s'.n s'.c)) w1.heap.size l' f' s' hs' pp.1 from hOw.box k8 (by decide) (by decide) (by decide) hw)
        have QB := hide (show Below wr.heap.size wr ((((u11_5_10.setCell ⟨b8, 0, none⟩ (.int .i64 pp.1.next)).setCell ⟨b8, 1, none⟩ (.slice l'.a l'.n l'.c)).setCell ⟨b8, 2, none⟩ (.slice f'.a f'.n f'.c)).setCell ⟨b8, 3, none⟩ (.slice s'.a s'.n s'.c)) from (unhide T11_5_10).bel.trans (WrB.below hw (fun i e => by rw [e]; exact h8) (unhide T11_5_10).bel.size))
        clear hw hOw k8 k9
        go_simp
        refine hK.out _ _ (unhide SK _ (unhide QB)) (fun hHeld => ?_)
        clear hK K
        clear c0 cf0 c1 cf1 c2 cf2 c3 cf3
        generalize ((((u11_5_10.setCell ⟨b8, 0, none⟩ (.int .i64 pp.1.next)).setCell ⟨b8, 1, none⟩ (.slice l'.a l'.n l'.c)).setCell ⟨b8, 2, none⟩ (.slice f'.a f'.n f'.c)).setCell ⟨b8, 3, none⟩ (.slice s'.a s'.n s'.c)) = ux at *
        refine rd [13] (.cons rfl (fun K hK => ?_) .nil)
        have c0 := (heap_at (unhide Q9) 0).1
        have c1 := (heap_at (unhide Q9) 1).1
        have c2 := (heap_at (unhide Q9) 2).1
        have c3 := (heap_at (unhide Q9) 3).1
        have cf0 := (heap_at (unhide Q9) 0).2
        have cf1 := (heap_at (unhide Q9) 1).2
        have cf2 := (heap_at (unhide Q9) 2).2
        have cf3 := (heap_at (unhide Q9) 3).2
        have hw : WrB (fun i => i = b9) ux ((((ux.setCell ⟨b9, 0, none⟩ (.int .i64 pp.2.code)).setCell ⟨b9, 1, none⟩ (.int .i64 pp.2.time)).setCell ⟨b9, 2, none⟩ (.string pp.2.val)).setCell ⟨b9, 3, none⟩ (.slice r.a r.n r.c)) := sv4_wr ux b9 (.int .i64 pp.2.code) (.int .i64 pp.2.time) (.string pp.2.val) (.slice r.a r.n r.c)
        have P9 := hide (show ((((ux.setCell ⟨b9, 0, none⟩ (.int .i64 pp.2.code)).setCell ⟨b9, 1, none⟩ (.int .i64 pp.2.time)).setCell ⟨b9, 2, none⟩ (.string pp.2.val)).setCell ⟨b9, 3, none⟩ (.slice r.a r.n r.c)).heap[b9]? = some (.cells #[.int .i64 pp.2.code, .int .i64 pp.2.time, .string pp.2.val, .slice r.a r.n r.c] 40 (0, 0)) from sv4_heap (unhide Q9) (.int .i64 pp.2.code) (.int .i64 pp.2.time) (.string pp.2.val) (.slice r.a r.n r.c))
        have P8 := hide (show ((((ux.setCell ⟨b9, 0, none⟩ (.int .i64 pp.2.code)).setCell ⟨b9, 1, none⟩ (.int .i64 pp.2.time)).setCell ⟨b9, 2, none⟩ (.string pp.2.val)).setCell ⟨b9, 3, none⟩ (.slice r.a r.n r.c)).heap[b8]? = some (.cells #[.int .i64 pp.1.next, .slice l'.a l'.n l'.c, .slice f'.a f'.n f'.c, .slice s'.a s'.n s'.c] 29 (0, 0)) from (hw.block b8 (blk_lt (unhide Q8)) (fun e => h89 e.symm)).trans (unhide Q8))
        have PO := hide (show VzOwn ((((ux.setCell ⟨b9, 0, none⟩ (.int .i64 pp.2.code)).setCell ⟨b9, 1, none⟩ (.int .i64 pp.2.time)).setCell ⟨b9, 2, none⟩ (.string pp.2.val)).setCell ⟨b9, 3, none⟩ (.slice r.a r.n r.c)) w1.heap.size l' f' s' hs' pp.1 from (unhide QO).box (unhide Q9) (by decide) (by decide) (by decide) hw)
        have PB := hide (show Below wr.heap.size wr ((((ux.setCell ⟨b9, 0, none⟩ (.int .i64 pp.2.code)).setCell ⟨b9, 1, none⟩ (.int .i64 pp.2.time)).setCell ⟨b9, 2, none⟩ (.string pp.2.val)).setCell ⟨b9, 3, none⟩ (.slice r.a r.n r.c)) from (unhide QB).trans (WrB.below hw (fun i e => by rw [e]; exact h9) (unhide QB).size))
        clear hw
        go_simp
        refine hK.out _ _ (unhide SK _ (unhide PB)) (fun hHeld => ?_)
        clear hK K
        refine tk 14 23 rfl rfl hHeld ?_
        simp only [Act.put, lA, lB, lC]
        refine wpAnyH_done (by kernel_rfl) ?_ _
        clear hHeld SK
        go_wp2_with fail
        go_meet
        case rel => exact ⟨b8, b9, l', f', s', hs', r, rfl, rfl, rfl, P8, P9, PO, PB, h8, h9⟩
       ·have T11_10 := hide (unhide T11).lit8
        go_simp
        generalize u11.alloc (.cells #[.int .i64 0, .slice none 0 0, .slice none 0 0, .slice none 0 0] 29) = u11_10 at *
        generalize u11.heap.size = b8 at *
        refine hK.out _ _ (unhide SK _ (unhide T11_10).bel) (fun hHeld => ?_)
        clear hK K
        refine rd [5] (.cons rfl (fun K hK => ?_) .nil)
        go_simp
        refine (unhide CS _ (unhide T11_10).bel).mono ?_
        intro e u11_10_5 hst
        obtain ⟨l', f', s', hs', r, rfl, hq⟩ := (unhide T11_10).call hwrW (unhide HP) hst
        have T11_10_5 := hide hq
        clear hq hst
        refine hK.out _ _ (unhide SK _ (unhide T11_10_5).bel) (fun hHeld => ?_)
        clear hK K
        refine tk 6 133 rfl rfl hHeld ?_
        simp only [Act.put, lA, lB, lC]
        refine tk 7 140 rfl rfl hHeld ?_
        simp only [Act.put, lA, lB, lC]
        refine tk 8 141 rfl rfl hHeld ?_
        simp only [Act.put, lA, lB, lC]
        refine tk 9 142 rfl rfl hHeld ?_
        simp only [Act.put, lA, lB, lC]
        refine rd [12] (.cons rfl (fun K hK => ?_) .nil)
        have hOw := (unhide T11_10_5).r l' f' s' hs' r rfl
        obtain ⟨h8, k8⟩ := (unhide T11_10_5).e8 b8 rfl
        obtain ⟨h9, k9⟩ := (unhide T11_10_5).e9 b9 rfl
        have c0 := (heap_at k8 0).1
        have c1 := (heap_at k8 1).1
        have c2 := (heap_at k8 2).1
        have c3 := (heap_at k8 3).1
        have cf0 := (heap_at k8 0).2
        have cf1 := (heap_at k8 1).2
        have cf2 := (heap_at k8 2).2
        have cf3 := (heap_at k8 3).2
        have h89 : b9 ≠ b8 := fun e => by rw [e, k8] at k9; injection k9 with k9; injection k9 with _ k9 _; exact absurd k9 (by decide)
        have hw : WrB (fun i => i = b8) u11_10_5 ((((u11_10_5.setCell ⟨b8, 0, none⟩ (.int .i64 pp.1.next)).setCell ⟨b8, 1, none⟩ (.slice l'.a l'.n l'.c)).setCell ⟨b8, 2, none⟩ (.slice f'.a f'.n f'.c)).setCell ⟨b8, 3, none⟩ (.slice s'.a s'.n s'.c)) := sv4_wr u11_10_5 b8 (.int .i64 pp.1.next) (.slice l'.a l'.n l'.c) (.slice f'.a f'.n f'.c) (.slice s'.a s'.n s'.c)
        have Q8 := hide (show ((((u11_10_5.setCell ⟨b8, 0, none⟩ (.int .i64 pp.1.next)).setCell ⟨b8, 1, none⟩ (.slice l'.a l'.n l'.c)).setCell ⟨b8, 2, none⟩ (.slice f'.a f'.n f'.c)).setCell ⟨b8, 3, none⟩ (.slice s'.a s'.n s'.c)).heap[b8]? = some (.cells #[.int .i64 pp.1.next, .slice l'.a l'.n l'.c, .slice f'.a f'.n f'.c, .slice s'.a s'.n s'.c] 29 (0, 0)) from sv4_heap k8 (.int .i64 pp.1.next) (.slice l'.a l'.n l'.c) (.slice f'.a f'.n f'.c) (.slice s'.a s'.n s'.c))
        have Q9 := hide (show ((((u11_10_5.setCell ⟨b8, 0, none⟩ (.int .i64 pp.1.next)).setCell ⟨b8, 1, none⟩ (.slice l'.a l'.n l'.c)).setCell ⟨b8, 2, none⟩ (.slice f'.a f'.n f'.c)).setCell ⟨b8, 3, none⟩ (.slice s'.a s'.n s'.c)).heap[b9]? = some (.cells #[.int .i64 0, .int .i64 0, .string ⟨#[]⟩, .slice none 0 0] 40 (0, 0)) from (hw.block b9 (blk_lt k9) h89).trans k9)
        have QO := hide (show VzOwn ((((u11_10_5.setCell ⟨b8, 0, none⟩ (.int .i64 pp.1.next)).setCell ⟨b8, 1, none⟩ (.slice l'.a l'.n l'.c)).setCell ⟨b8, 2, none⟩ (.slice f'.a f'.n f'.c)).setCell ⟨b8, 3, none⟩ (.slice s'.a s'.n s'.c)) w1.heap.size l' f' s' hs' pp.1 from hOw.box k8 (by decide) (by decide) (by decide) hw)
        have QB := hide (show Below wr.heap.size wr ((((u11_10_5.setCell ⟨b8, 0, none⟩ (.int .i64 pp.1.next)).setCell ⟨b8, 1, none⟩ (.slice l'.a l'.n l'.c)).setCell ⟨b8, 2, none⟩ (.slice f'.a f'.n f'.c)).setCell ⟨b8, 3, none⟩ (.slice s'.a s'.n s'.c)) from (unhide T11_10_5).bel.trans (WrB.below hw (fun i e => by rw [e]; exact h8) (unhide T11_10_5).bel.size))
        clear hw hOw k8 k9
        go_simp
        refine hK.out _ _ (unhide SK _ (unhide QB)) (fun hHeld => ?_)
        clear hK K
        clear c0 cf0 c1 cf1 c2 cf2 c3 cf3
        generalize ((((u11_10_5.setCell ⟨b8, 0, none⟩ (.int .i64 pp.1.next)).setCell ⟨b8, 1, none⟩ (.slice l'.a l'.n l'.c)).setCell ⟨b8, 2, none⟩ (.slice f'.a f'.n f'.c)).setCell ⟨b8, 3, none⟩ (.slice s'.a s'.n s'.c)) = ux at *
        refine rd [13] (.cons rfl (fun K hK => ?_) .nil)
        have c0 := (heap_at (unhide Q9) 0).1
        have c1 := (heap_at (unhide Q9) 1).1
        have c2 := (heap_at (unhide Q9) 2).1
        have c3 := (heap_at (unhide Q9) 3).1
        have cf0 := (heap_at (unhide Q9) 0).2
        have cf1 := (heap_at (unhide Q9) 1).2
        have cf2 := (heap_at (unhide Q9) 2).2
        have cf3 := (heap_at (unhide Q9) 3).2
        have hw : WrB (fun i => i = b9) ux ((((ux.setCell ⟨b9, 0, none⟩ (.int .i64 pp.2.code)).setCell ⟨b9, 1, none⟩ (.int .i64 pp.2.time)).setCell ⟨b9, 2, none⟩ (.string pp.2.val)).setCell ⟨b9, 3, none⟩ (.slice r.a r.n r.c)) := sv4_wr ux b9 (.int .i64 pp.2.code) (.int .i64 pp.2.time) (.string pp.2.val) (.slice r.a r.n r.c)
        have P9 := hide (show ((((ux.setCell ⟨b9, 0, none⟩ (.int .i64 pp.2.code)).setCell ⟨b9, 1, none⟩ (.int .i64 pp.2.time)).setCell ⟨b9, 2, none⟩ (.string pp.2.val)).setCell ⟨b9, 3, none⟩ (.slice r.a r.n r.c)).heap[b9]? = some (.cells #[.int .i64 pp.2.code, .int .i64 pp.2.time, .string pp.2.val, .slice r.a r.n r.c] 40 (0, 0)) from sv4_heap (unhide Q9) (.int .i64 pp.2.code) (.int .i64 pp.2.time) (.string pp.2.val) (.slice r.a r.n r.c))
        have P8 := hide (show ((((ux.setCell ⟨b9, 0, none⟩ (.int .i64 pp.2.code)).setCell ⟨b9, 1, none⟩ (.int .i64 pp.2.time)).setCell ⟨b9, 2, none⟩ (.string pp.2.val)).setCell ⟨b9, 3, none⟩ (.slice r.a r.n r.c)).heap[b8]? = some (.cells #[.int .i64 pp.1.next, .slice l'.a l'.n l'.c, .slice f'.a f'.n f'.c, .slice s'.a s'.n s'.c] 29 (0, 0)) from (hw.block b8 (blk_lt (unhide Q8)) (fun e => h89 e.symm)).trans (unhide Q8))
        have PO := hide (show VzOwn ((((ux.setCell ⟨b9, 0, none⟩ (.int .i64 pp.2.code)).setCell ⟨b9, 1, none⟩ (.int .i64 pp.2.time)).setCell ⟨b9, 2, none⟩ (.string pp.2.val)).setCell ⟨b9, 3, none⟩ (.slice r.a r.n r.c)) w1.heap.size l' f' s' hs' pp.1 from (unhide QO).box (unhide Q9) (by decide) (by decide) (by decide) hw)
        have PB := hide (show Below wr.heap.size wr ((((ux.setCell ⟨b9, 0, none⟩ (.int .i64 pp.2.code)).setCell ⟨b9, 1, none⟩ (.int .i64 pp.2.time)).setCell ⟨b9, 2, none⟩ (.string pp.2.val)).setCell ⟨b9, 3, none⟩ (.slice r.a r.n r.c)) from (unhide QB).trans (WrB.below hw (fun i e => by rw [e]; exact h9) (unhide QB).size))
        clear hw
        go_simp
        refine hK.out _ _ (unhide SK _ (unhide PB)) (fun hHeld => ?_)
        clear hK K
        refine tk 14 23 rfl rfl hHeld ?_
        simp only [Act.put, lA, lB, lC]
        refine wpAnyH_done (by kernel_rfl) ?_ _
        clear hHeld SK
        go_wp2_with fail
        go_meet
        case rel => exact ⟨b8, b9, l', f', s', hs', r, rfl, rfl, rfl, P8, P9, PO, PB, h8, h9⟩
     case rest =>
      obtain ⟨b8, b9, ⟨la2, ln2, lc2⟩, ⟨fa2, fn2, fc2⟩, ⟨sa2, sn2, sc2⟩, hs2, ⟨ra, rn2, rc⟩, rfl, rfl, rfl, hK8, hK9, hOW, hBc, hg8, hg9⟩ := hcut
      clear CS SK T00
      obtain ⟨C0, T0, V0, ra0, rn0, rc0, -, kr0⟩ := unhide RB
      have krc := ((unhide hBc).block rb (blk_lt kr0)).trans kr0
      have hrb8 : rb < wr.heap.size := blk_lt kr0
      have L1 := ((unhide LS).below (unhide hBc)).beside krc (unhide HRG) (.int .i64 pp.2.code) (.int .i64 pp.2.time) (.string pp.2.val) (.slice ra rn2 rc)
      have hwr := sv4_wr wc rb (.int .i64 pp.2.code) (.int .i64 pp.2.time) (.string pp.2.val) (.slice ra rn2 rc)
      have O1 := (unhide hOW).box krc (by decide) (by decide) (by decide) hwr
      have NS := hide (L1.lay (Below.refl _ _) O1)
      have kb := L1.box
      have k8 := (hwr.block b8 (blk_lt (unhide hK8)) (by omega)).trans (unhide hK8)
      have nr := sv4_heap krc (.int .i64 pp.2.code) (.int .i64 pp.2.time) (.string pp.2.val) (.slice ra rn2 rc)
      have hwv := sv4_wr (sv4 wc rb (.int .i64 pp.2.code) (.int .i64 pp.2.time) (.string pp.2.val) (.slice ra rn2 rc)) vb (.int .i64 pp.1.next) (.slice la2 ln2 lc2) (.slice fa2 fn2 fc2) (.slice sa2 sn2 sc2)
      have NR := hide ((hwv.block rb (blk_lt nr) (fun e => by have h := kb; rw [← e, nr] at h; injection h with h; injection h with _ h _; exact absurd h (by decide))).trans nr)
      unfold vzC at kb
      simp only at kb NS k8 hK9
      have t0 := (heap_at kb 0).1
      have t1 := (heap_at kb 1).1
      have t2 := (heap_at kb 2).1
      have t3 := (heap_at kb 3).1
      have tf0 := (heap_at kb 0).2
      have tf1 := (heap_at kb 1).2
      have tf2 := (heap_at kb 2).2
      have tf3 := (heap_at kb 3).2
      have y0 := (heap_at k8 0).1
      have y1 := (heap_at k8 1).1
      have y2 := (heap_at k8 2).1
      have y3 := (heap_at k8 3).1
      have p0 := (heap_at (unhide hK9) 0).1
      have p1 := (heap_at (unhide hK9) 1).1
      have p2 := (heap_at (unhide hK9) 2).1
      have p3 := (heap_at (unhide hK9) 3).1
      have o0 := (heap_at krc 0).1
      have o1 := (heap_at krc 1).1
      have o2 := (heap_at krc 2).1
      have o3 := (heap_at krc 3).1
      have of0 := (heap_at krc 0).2
      have of1 := (heap_at krc 1).2
      have of2 := (heap_at krc 2).2
      have of3 := (heap_at krc 3).2
      unfold sv4 at NS NR t0 t1 t2 t3 tf0 tf1 tf2 tf3 y0 y1 y2 y3
      have JN := (unhide HPP).2
      have JC := (unhide HPP).1
      clear kb k8 nr krc kr0 L1 O1 hwr hwv hK8 hK9 hOW HPP LS HP HR hszj RB
      go_wp2_with fail
      go_roundw
      case rel => exact ⟨j + 1, ⟨la2, ln2, lc2⟩, ⟨fa2, fn2, fc2⟩, ⟨sa2, sn2, sc2⟩, hs2, pp.1, by go_num, JN, NS, HRN, hide ⟨_, _, _, _, _, _, JC, unhide NR⟩⟩
      case measure => simp [intOf]; omega
    case pos =>
     subst hj2
     have hdk : dk = lt6 d key := by
      rcases hjd with ⟨h, -⟩ | ⟨h, -⟩ | ⟨h, -⟩ | ⟨-, h⟩
      ·omega
      ·omega
      ·omega
      ·exact h
     subst hdk
     clear hjd
     obtain ⟨C0, T0, V0, ra0, rn0, rc0, hC9, kr0⟩ := unhide RB
     obtain rfl : C0 = 9 := hC9 rfl
     have r0 := (heap_at kr0 0).1
     have q3 := (heap_at (unhide LS).box 3).1
     simp only [vzC, List.getElem?_toArray, List.getElem?_cons_zero, List.getElem?_cons_succ] at q3 r0
     have hl6 : hs1.length = 4 := by
      have h1 := (unhide LS).own.ss
      have h2 := (unhide HR).ses
      have h3 := congrArg List.length h1
      rw [List.length_map, h2] at h3
      exact h3
     obtain ⟨g6, hg6, hsn6, -, -, c9, -, -, -, hd6, hx6⟩ := (unhide LS).own.sesAt (i := 3) (by omega)
     simp only at hg6 hsn6
     subst hg6
     have hx7 : hs1[3].X = clS := by
      rw [hx6]
      have : (lt6 d key).ses[3]? = some clS := by
       show ((((d.ses.set 3 _).set 2 clS).set 2 _).set 3 clS)[3]? = _
       rw [List.getElem?_set_self (by rw [List.length_set, List.length_set, List.length_set, (unhide HRV).ses]; decide)]
      rw [List.getElem?_eq_getElem hd6] at this
      injection this
     rw [hx7] at c9
     have hsn6I : (3 : Int) < (sn1 : Int) := by omega
     clear hsn6
     have hj3N : ¬ (((3 : Nat) : Int) < 3) := by decide
     have c9' : _ = some (Value.bool false) := c9
     have BE := hide (unhide BF wr (unhide LS).bel)
     clear LS HR RB kr0 hC9 hx6 hx7 hd6 hl6 c9
     go_wp2_with fail
     go_ret
     exact ⟨ret_bool (by simp), unhide BE⟩
end Go.Proofs.YtdnjgbckkmbmfaaGreat

namespace Go.Proofs.YtdnjgbckkmbmfaaGreat.fnLateFrame
open Go.ChangeShapes Go.WideShapes Go.ChangeAt Go.RowKit
open Go.ChangeMaps (open_string shut_string)
set_option linter.unusedVariables false

theorem own : ownKnob Tryz.prog.godebug = none := by kernel_rfl
theorem laidOut : laidOutB Tryz.prog = true := by kernel_rfl

theorem lifted (os : Os) (started : os.Started) (H : Type) (enc : TypeId × Value → H) :
  ReturnsInHanded {} Tryz.checked os 4 .any (Rows.fnLateSpec.pre6 enc Tryz.prog Tryz.f4 Rows.fnLateRow.domain false) (Rows.fnLateSpec.post enc Tryz.prog Tryz.f4 false true false false) := by
 refine returnsInHanded_of_change (C := Tryz.checked) own started (by kernel_rfl) Tryz.func4
  (ChangeSpec.witness6 (enc := enc) (C := Tryz.checked) false ⟨#[], #[.slice none 0 0, .slice none 0 0], []⟩ 8 (by kernel_rfl) (by kernel_rfl) (by kernel_rfl) (by kernel_rfl)) ?_
 intro W base args ds gs before hval0 hW _ _
 have hval : ∀ (j : Nat) t v, Tryz.f4.params[j]? = some t → args[j]? = some v → Value.okWide Tryz.prog W .any base t v := hval0
 have hW' := hW
 obtain ⟨p, q, hA0, hV, rfl, _, _⟩ := hW
 have hA : DataW.TrodAll enc Tryz.prog W 0 (fun _ => true) true Tryz.f4.params.toList args.toList ds p := hA0
 rw [Tryz.params4] at hA hval
 obtain ⟨v0, vs0, d0, ds0, p0, q0, hargs, rfl, rfl, h0, r0⟩ := trodAll_cons hA
 obtain ⟨v1, vs1, d1, ds1, p1, q1, rfl, rfl, rfl, h1, r1⟩ := trodAll_cons r0
 obtain ⟨rfl, rfl, rfl⟩ := trodAll_nil r1
 obtain rfl : args = #[v0, v1] := by cases args; simp_all
 obtain ⟨rfl, rfl⟩ := trodVars_none hV
 have k0 := h0
 have lt0 : ∀ x ∈ p0, x.block < W.heap.size := by obtain ⟨m, hm⟩ := k0; exact DataW.trod_lt m _ _ _ hm
 have k1 := h1
 have lt1 : ∀ x ∈ p1, x.block < W.heap.size := by obtain ⟨m, hm⟩ := k1; exact DataW.trod_lt m _ _ _ hm
 obtain ⟨a0, len0, cap0, rfl⟩ := okWide_slice Tryz.underlying22 (hval 0 22 v0 rfl rfl)
 obtain ⟨z0, w0⟩ : ∃ zs, IsRow .u8 W a0 len0 cap0 zs := by
  obtain ⟨fuel, hf⟩ := h0
  rcases open_ints Tryz.underlying22 Tryz.underlying5 (by kernel_rfl) hf with ⟨hcs, _⟩ | ⟨x, l, c, zs, hcs, _, hl, hm, hz, _, hcell, hwz⟩
  ·simp [Value.cells] at hcs
   obtain ⟨rfl, rfl, rfl⟩ := hcs
   exact ⟨[], .inl ⟨rfl, rfl, rfl, rfl⟩⟩
  ·simp [Value.cells] at hcs
   obtain ⟨rfl, rfl, rfl⟩ := hcs
   exact ⟨zs, .inr ⟨_, rfl, hl, hm, by simpa using hz, hcell, hwz⟩⟩
 obtain ⟨a1, len1, cap1, rfl⟩ := okWide_slice Tryz.underlying22 (hval 1 22 v1 rfl rfl)
 obtain ⟨z1, w1⟩ : ∃ zs, IsRow .u8 W a1 len1 cap1 zs := by
  obtain ⟨fuel, hf⟩ := h1
  rcases open_ints Tryz.underlying22 Tryz.underlying5 (by kernel_rfl) hf with ⟨hcs, _⟩ | ⟨x, l, c, zs, hcs, _, hl, hm, hz, _, hcell, hwz⟩
  ·simp [Value.cells] at hcs
   obtain ⟨rfl, rfl, rfl⟩ := hcs
   exact ⟨[], .inl ⟨rfl, rfl, rfl, rfl⟩⟩
  ·simp [Value.cells] at hcs
   obtain ⟨rfl, rfl, rfl⟩ := hcs
   exact ⟨zs, .inr ⟨_, rfl, hl, hm, by simpa using hz, hcell, hwz⟩⟩
 clear hA0 hval0
 refine (fnLate_law a0 len0 cap0 z0 a1 len1 cap1 z1 W w0 w1).mono fun e W' ⟨he, bel⟩ => ?_
 subst he
 exact ⟨_, rfl, _, _, _, [], _, [], hW', trodAll_mk1 (shut_bool Tryz.underlying4 _), (trodAll_cons_mk (Below.trod laidOut (by kernel_rfl) (of_decide_eq_true (by kernel_rfl)) k0 bel lt0) (trodAll_cons_mk (Below.trod laidOut (by kernel_rfl) (of_decide_eq_true (by kernel_rfl)) k1 bel lt1) trodAll_mk0)), rfl, bel.frame _, fun h => by cases h⟩

theorem over : Rows.fnLateRow.holds Tryz.pinned (OpenSpec.ofChange Rows.fnLateSpec) :=
 OpenClaim.holds_of_wide 4 Tryz.f4 rfl rfl rfl rfl rfl rfl rfl ⟨rfl, rfl, rfl, rfl, rfl⟩ rfl rfl rfl rfl rfl (by kernel_rfl) Tryz.func4 (by kernel_rfl)
  (of_decide_eq_true (by kernel_rfl)) (by unfold Func.isWrapper; first | (rw [if_pos (by decide +kernel)]; kernel_rfl) | (rw [if_neg (by decide +kernel)]; exact ⟨rfl, rfl⟩))
  (fun os started H enc _ => lifted os started H enc)

end Go.Proofs.YtdnjgbckkmbmfaaGreat.fnLateFrame
namespace Go.Proofs.YtdnjgbckkmbmfaaGreat
theorem fnLate_proved : Rows.FnLateSaid := fnLateFrame.over
#print axioms fnLate_proved
end Go.Proofs.YtdnjgbckkmbmfaaGreat
