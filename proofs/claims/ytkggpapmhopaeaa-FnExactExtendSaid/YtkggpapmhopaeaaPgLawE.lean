/-
  The walk of the law of Extend.
-/
import Derived.Test.YtkggpapmhopaeaaPageX
import Derived.Test.YtkggpapmhopaeaaPgIn
import Derived.Deep.RegionWith
import Derived.Deep.DeepCutAuto
import Derived.Deep.RegionHeld3
namespace Go.Proofs.Ytkggpapmhopaeaa
open Go.RowKit

/-- A box of a page that has been made and not filled yet. -/
def PK (u : World) (B b : Nat) : Prop := B ≤ b ∧ u.heap[b]? = some (.cells #[.string ⟨#[]⟩, .string ⟨#[]⟩, .int .i64 0, .slice none 0 0, .slice none 0 0] 31 (0, 0))
abbrev zpg : Obj := .cells #[.string ⟨#[]⟩, .string ⟨#[]⟩, .int .i64 0, .slice none 0 0, .slice none 0 0] 31
theorem is_alloc {X u : World} {o : Obj} (hb : Below (X.alloc o).heap.size (X.alloc o) u) : u.heap[X.heap.size]? = some o := (hb.block X.heap.size (by simp)).trans (heap_alloc_new X o)
theorem is_allocD {X u : World} {o : Obj} (hb : Below (X.alloc o).drew.heap.size (X.alloc o).drew u) : u.heap[X.heap.size]? = some o := is_alloc (bel_of_drew hb)
theorem pk_of {u : World} {B b : Nat} (h : u.heap[b]? = some zpg) (hB : B ≤ b) : PK u B b := ⟨hB, h⟩
theorem PK.ge {u : World} {B b : Nat} (h : PK u B b) : B ≤ b := h.1
theorem PK.step {u u' : World} {B b : Nat} (h : PK u B b) (hb : Below u.heap.size u u') : PK u' B b := ⟨h.1, (hb.block b (heap_lt h.2)).trans h.2⟩
/-- A box of a page. -/
def PX (u : World) (b : Nat) (lo hi : ByteArray) (r : Int) (vb vc : Value) : Prop := u.heap[b]? = some (.cells #[.string lo, .string hi, .int .i64 r, vb, vc] 31 (0, 0))
theorem px_set {u : World} {B b : Nat} (h : PK u B b) (lo hi : ByteArray) (r : Int) (vb vc : Value) : PX (set5 u b (.string lo) (.string hi) (.int .i64 r) vb vc) b lo hi r vb vc := by
  have := heap_set (heap_set (heap_set (heap_set (heap_set h.2 0 (.string lo)) 1 (.string hi)) 2 (.int .i64 r)) 3 vb) 4 vc
  simpa [PX] using this
theorem nb_new {X u : World} {o : Obj} {a : Option Addr} {n c : Nat} {a2 : Option Addr} {n2 c2 : Nat} {es : List EntD} {ds : List DelD} (h : PgOwn u (X.alloc o).heap.size a n c a2 n2 c2 es ds) : ¬ PgBlk a n c a2 n2 c2 X.heap.size := fun hp => by
  have := (h.blk hp).1
  simp at this
  omega
theorem nb_newD {X u : World} {o : Obj} {a : Option Addr} {n c : Nat} {a2 : Option Addr} {n2 c2 : Nat} {es : List EntD} {ds : List DelD} (h : PgOwn u (X.alloc o).drew.heap.size a n c a2 n2 c2 es ds) : ¬ PgBlk a n c a2 n2 c2 X.heap.size := fun hp => by
  have h1 := (h.blk hp).1
  have e : (X.alloc o).drew.heap.size = (X.alloc o).heap.size := rfl
  rw [e] at h1
  simp at h1
  omega
theorem nb_old {u u' : World} {B b : Nat} {a : Option Addr} {n c : Nat} {a2 : Option Addr} {n2 c2 : Nat} {es : List EntD} {ds : List DelD} (k : PK u B b) (h : PgOwn u' u.heap.size a n c a2 n2 c2 es ds) : ¬ PgBlk a n c a2 n2 c2 b := fun hp => by
  have := (h.blk hp).1
  have := heap_lt k.2
  omega
/-- What such a region leaves. -/
def Left (w0 : World) (cl ch : ByteArray) (cr ck : Int) (ce : List EntD) (cd : List DelD) (v6 v7 : Value) (wc : World) : Prop :=
  ∃ b a n c a2 n2 c2, v6 = .pointer (some ⟨b, 0, none⟩) ∧ v7 = .int .i64 ck ∧ PX wc b cl ch cr (.slice a n c) (.slice a2 n2 c2) ∧ PgOwn wc w0.heap.size a n c a2 n2 c2 ce cd ∧ (w0.heap.size ≤ b ∧ ¬ PgBlk a n c a2 n2 c2 b) ∧ Below w0.heap.size w0 wc
theorem left_last {w0 X : World} {cl ch : ByteArray} {cr ck : Int} {ce : List EntD} {cd : List DelD} {B : Nat} {a : Option Addr} {n c : Nat} {a2 : Option Addr} {n2 c2 : Nat} (ho : PgOwn X B a n c a2 n2 c2 ce cd) (hB : w0.heap.size ≤ B) (hb : Below w0.heap.size w0 X) : Left w0 cl ch cr ck ce cd (.pointer (some ⟨X.heap.size, 0, none⟩)) (.int .i64 ck) (X.alloc (.cells #[.string cl, .string ch, .int .i64 cr, .slice a n c, .slice a2 n2 c2] 31)) :=
  ⟨_, a, n, c, a2, n2, c2, rfl, rfl, heap_alloc_new X _, (ho.below ((Below.refl _ _).alloc (Nat.le_refl _) _)).base hB, ⟨hb.size, fun h => by have := (ho.blk h).2; omega⟩, hb.alloc hb.size _⟩
theorem wr_setE (w : World) (b o : Nat) (v : Value) : Wr (fun i => i = b) w (w.setCell ⟨b, o, none⟩ v) :=
  ⟨rfl, rfl, rfl, by simp [World.setCell], fun k _ hk => Below.heap_setCell _ _ _ _ hk⟩
theorem left_box {w0 X : World} {cl ch : ByteArray} {cr ck : Int} {ce : List EntD} {cd : List DelD} {B b : Nat} {a : Option Addr} {n c : Nat} {a2 : Option Addr} {n2 c2 : Nat} (hk : PK X w0.heap.size b) (hn : ¬ PgBlk a n c a2 n2 c2 b) (ho : PgOwn X B a n c a2 n2 c2 ce cd) (hB : w0.heap.size ≤ B) (hb : Below w0.heap.size w0 X) : Left w0 cl ch cr ck ce cd (.pointer (some ⟨b, 0, none⟩)) (.int .i64 ck) (set5 X b (.string cl) (.string ch) (.int .i64 cr) (.slice a n c) (.slice a2 n2 c2)) := by
  have hw : Wr (fun i => i = b) X (set5 X b (.string cl) (.string ch) (.int .i64 cr) (.slice a n c) (.slice a2 n2 c2)) := ((((wr_setE X b 0 _).trans (wr_setE _ b 1 _)).trans (wr_setE _ b 2 _)).trans (wr_setE _ b 3 _)).trans (wr_setE _ b 4 _)
  exact ⟨b, a, n, c, a2, n2, c2, rfl, rfl, px_set hk _ _ _ _ _, (ho.wr hw (fun i hi h => hn (h ▸ hi))).base hB, ⟨hk.1, hn⟩, set5_below hb hk.1 _ _ _ _ _⟩
/-- The cells of the two arguments' boxes. -/
def ArgC (u : World) (ba : Nat) (lo hi : ByteArray) (r : Int) (vb vc : Value) (d : DelD) : Prop :=
  (u.cell? ⟨ba, 0, none⟩ = some (.string lo) ∧ u.cell? ⟨ba, 1, none⟩ = some (.string hi) ∧ u.cell? ⟨ba, 2, none⟩ = some (.int .i64 r) ∧ u.cell? ⟨ba, 3, none⟩ = some vb ∧ u.cell? ⟨ba, 4, none⟩ = some vc) ∧ (u.cell? ⟨ba + 1, 0, none⟩ = some (.int .i64 d.kind) ∧ u.cell? ⟨ba + 1, 1, none⟩ = some (.string d.k) ∧ u.cell? ⟨ba + 1, 2, none⟩ = some (.string d.v) ∧ u.cell? ⟨ba + 1, 3, none⟩ = some (.int .i64 d.to)) ∧ ba < u.heap.size ∧ ba + 1 < u.heap.size
theorem argC {w0 u : World} {ba : Nat} {lo hi : ByteArray} {r : Int} {vb vc : Value} {d : DelD} {t t2 : TypeId} (k1 : w0.heap[ba]? = some (.cells #[.string lo, .string hi, .int .i64 r, vb, vc] t (0, 0))) (k2 : w0.heap[ba + 1]? = some (.cells #[.int .i64 d.kind, .string d.k, .string d.v, .int .i64 d.to] t2 (0, 0))) (hb : Below w0.heap.size w0 u) : ArgC u ba lo hi r vb vc d :=
  ⟨pg_cells5 ((hb.block ba (heap_lt k1)).trans k1), d_cells ((hb.block (ba + 1) (heap_lt k2)).trans k2), heap_lt ((hb.block ba (heap_lt k1)).trans k1), heap_lt ((hb.block (ba + 1) (heap_lt k2)).trans k2)⟩
set_option maxRecDepth 100000 in
set_option maxHeartbeats 100000000 in
theorem lawExtend_any (lo hi : ByteArray) (r : Int) (ab : Option Addr) (nb cb : Nat) (es : List EntD) (ac : Option Addr) (nc cc : Nat) (ds : List DelD) (d : DelD) (w : World) (hP : IsPage w lo hi ab nb es ac nc ds) (hd : d.k.size ≤ maxLen ∧ d.v.size ≤ maxLen) :
    Calls Try.prog 6 #[pgv lo hi r ab nb cb ac nc cc, dv d] w fun e w' => e = .returned (.bool true) ∧ Below w.heap.size w w' := by
  have z1' : (w.alloc (.cells #[.string lo, .string hi, .int .i64 r, .slice ab nb cb, .slice ac nc cc] 25)).heap.size = w.heap.size + 1 := by simp
  have b2' : Below (w.heap.size + 1) (w.alloc (.cells #[.string lo, .string hi, .int .i64 r, .slice ab nb cb, .slice ac nc cc] 25)) ((w.alloc (.cells #[.string lo, .string hi, .int .i64 r, .slice ab nb cb, .slice ac nc cc] 25)).alloc (.cells #[.int .i64 d.kind, .string d.k, .string d.v, .int .i64 d.to] 40)) := (Below.refl _ _).alloc (by omega) _
  have B : Below w.heap.size w ((w.alloc (.cells #[.string lo, .string hi, .int .i64 r, .slice ab nb cb, .slice ac nc cc] 25)).alloc (.cells #[.int .i64 d.kind, .string d.k, .string d.v, .int .i64 d.to] 40)) := ((Below.refl _ _).alloc (Nat.le_refl _) _).alloc (by simp) _
  have K_a := hide ((b2'.block w.heap.size (by omega)).trans (heap_alloc_new w (.cells #[.string lo, .string hi, .int .i64 r, .slice ab nb cb, .slice ac nc cc] 25)))
  have K_d := hide (heap_new z1' #[.int .i64 d.kind, .string d.k, .string d.v, .int .i64 d.to] 40)
  have z0 : ((w.alloc (.cells #[.string lo, .string hi, .int .i64 r, .slice ab nb cb, .slice ac nc cc] 25)).alloc (.cells #[.int .i64 d.kind, .string d.k, .string d.v, .int .i64 d.to] 40)).heap.size = w.heap.size + 1 + 1 := by simp
  have P := hide hP
  clear hP b2' z1'
  go_enter Try.func6, Try.ntmps6
  go_wp2_with fail
  generalize ((w.alloc (.cells #[.string lo, .string hi, .int .i64 r, .slice ab nb cb, .slice ac nc cc] 25)).alloc (.cells #[.int .i64 d.kind, .string d.k, .string d.v, .int .i64 d.to] 40)) = W0 at *
  refine (szPage_any lo hi r ab nb cb es ac nc cc ds 1048576 W0 (by omega) (by omega) ((unhide P).below B)).mono ?_
  rintro e w1 ⟨q, rfl, hq, hb⟩
  replace K_a := hide ((hb.block w.heap.size (heap_lt (unhide K_a))).trans (unhide K_a))
  replace K_d := hide ((hb.block (w.heap.size + 1) (heap_lt (unhide K_d))).trans (unhide K_d))
  replace B := B.trans (hb.mono B.size)
  have zz_w1 := hb.size
  clear hb
  rcases hq with rfl | ⟨q0, q1, hnb, hnc⟩
  · go_wp2_with fail
    go_ret
    exact ⟨rfl, B⟩
  have hnb : nb ≤ 1048576 := by omega
  have hnc : nc ≤ 1048576 := by omega
  have hln : es.length ≤ 1048576 := by rw [(unhide P).1.1]; exact hnb
  have hlc : ds.length ≤ 1048576 := by rw [(unhide P).2.1.1]; exact hnc
  obtain ⟨j0, j1, j2, j3⟩ := d_cells (unhide K_d)
  go_wp2_with fail
  refine (szDelta_any d q w1 q0 (by omega) hd.1 hd.2).mono ?_
  rintro e w2 ⟨q', rfl, hq, hb⟩
  replace K_a := hide ((hb.block w.heap.size (heap_lt (unhide K_a))).trans (unhide K_a))
  replace K_d := hide ((hb.block (w.heap.size + 1) (heap_lt (unhide K_d))).trans (unhide K_d))
  replace B := B.trans (hb.mono B.size)
  have zz_w2 := hb.size
  clear hb j0 j1 j2 j3
  rcases hq with rfl | ⟨q0', q1'⟩
  · go_wp2_with fail
    go_ret
    exact ⟨rfl, B⟩
  obtain ⟨cl, h_cl⟩ : ∃ x, x = (extP lo hi r es ds d).lo := ⟨_, rfl⟩
  obtain ⟨ch, h_ch⟩ : ∃ x, x = (extP lo hi r es ds d).hi := ⟨_, rfl⟩
  obtain ⟨cr, h_cr⟩ : ∃ x, x = (extP lo hi r es ds d).r := ⟨_, rfl⟩
  obtain ⟨ce, h_ce⟩ : ∃ x, x = (extP lo hi r es ds d).es := ⟨_, rfl⟩
  obtain ⟨cd, h_cd⟩ : ∃ x, x = (extP lo hi r es ds d).ds := ⟨_, rfl⟩
  obtain ⟨ck, h_ck⟩ : ∃ x, x = extC lo hi r es ds d := ⟨_, rfl⟩
  have hce : ce.length ≤ 1048576 ∧ cd.length ≤ 1048576 + 1 := by
    rw [h_ce, h_cd]; unfold extP; split
    · exact ⟨hln, by simp; omega⟩
    · exact ⟨by simp, by simp⟩
  have CON := hide (show ∀ W e W', ExtRes lo hi r es ds d W e W' → ∃ a n c a2 n2 c2, e = .returned (.tuple #[pgv cl ch cr a n c a2 n2 c2, .int .i64 ck]) ∧ PgOwn W' W.heap.size a n c a2 n2 c2 ce cd ∧ Below W.heap.size W W' from fun W e W' h => by rw [h_cl, h_ch, h_cr, h_ce, h_cd, h_ck]; exact h)
  have hcd12 : cd.length ≤ 12 ∧ ce.length ≤ 32 := by
    rw [h_ce, h_cd]; unfold extP; split
    · rename_i h0
      unfold extC at h0
      split at h0
      · cases h0
      · rename_i h1
        have hok : okPage lo hi r es ds = true := by simpa using h1
        have hl := ok_len hok
        split at h0
        · cases h0
        · split at h0
          · cases h0
          · rename_i h12
            refine ⟨?_, hl.1⟩
            simp
            omega
    · exact ⟨by simp, by simp⟩
  clear h_cl h_ch h_cr h_ce h_cd h_ck hce
  have CD := hide (fun (u : World) (hb : Below w2.heap.size w2 u) => (toDelta_any d u).mono fun e u' h => show e = .returned (dv d) ∧ Below u.heap.size u u' ∧ Below w2.heap.size w2 u' from ⟨h.1, h.2, hb.trans (h.2.mono hb.size)⟩)
  have CT := hide (fun (u : World) (hb : Below w2.heap.size w2 u) => (toPage_any lo hi r ab nb cb es ac nc cc ds u hnb hnc ((unhide P).below (B.trans (hb.mono B.size)))).mono fun e u' h => show ∃ g h, e = .returned (pgv lo hi r (some ⟨g, 0, none⟩) nb nb (some ⟨h, 0, none⟩) nc nc) ∧ PgOwn u' w2.heap.size (some ⟨g, 0, none⟩) nb nb (some ⟨h, 0, none⟩) nc nc es ds ∧ Below u.heap.size u u' ∧ Below w2.heap.size w2 u' by
    obtain ⟨g, h, e, o, b⟩ := h
    exact ⟨g, h, e, (pgown_of o).base hb.size, b, hb.trans (b.mono hb.size)⟩)
  have CX := hide (fun (u : World) (hb : Below w2.heap.size w2 u) (g h : Nat) (C : Nat) (ho : PgOwn u C (some ⟨g, 0, none⟩) nb nb (some ⟨h, 0, none⟩) nc nc es ds) => (specExtend_any lo hi r (some ⟨g, 0, none⟩) nb nb es (some ⟨h, 0, none⟩) nc nc ds d u (erow_of_owns ho.1) (drow_of_owns ho.2.1) (fun h => by cases h) (fun h => by cases h)).mono fun e u' hx => show ∃ a n c a2 n2 c2, e = .returned (.tuple #[pgv cl ch cr a n c a2 n2 c2, .int .i64 ck]) ∧ PgOwn u' u.heap.size a n c a2 n2 c2 ce cd ∧ w2.heap.size ≤ u.heap.size ∧ Below u.heap.size u u' ∧ Below w2.heap.size w2 u' by
    obtain ⟨a, n, c, a2, n2, c2, e, o, b⟩ := unhide CON _ _ _ hx
    exact ⟨a, n, c, a2, n2, c2, e, o, hb.size, b, hb.trans (b.mono hb.size)⟩)
  have AC := hide (fun (u : World) (hb : Below w2.heap.size w2 u) => argC (unhide K_a) (unhide K_d) hb)
  go_upto_region 8 with fail
  go_cut [6, 7] (fun v6 v7 wc => Left w2 cl ch cr ck ce cd v6 v7 wc)
  case first =>
    have hb00 := Below.refl w2.heap.size w2
    have hbf : Below w2.heap.size w2 w2.drew := hb00.drew
    have SK := hide (show ∀ u, Below w2.heap.size w2 u → (fun u => Below w2.heap.size w2 u ∧ u.cell? ⟨w.heap.size, 0, none⟩ = some (.string lo) ∧ u.cell? ⟨w.heap.size, 1, none⟩ = some (.string hi) ∧ u.cell? ⟨w.heap.size, 2, none⟩ = some (.int .i64 r) ∧ u.cell? ⟨w.heap.size, 3, none⟩ = some (.slice ab nb cb) ∧ u.cell? ⟨w.heap.size, 4, none⟩ = some (.slice ac nc cc) ∧ u.cell? ⟨w.heap.size + 1, 0, none⟩ = some (.int .i64 d.kind) ∧ u.cell? ⟨w.heap.size + 1, 1, none⟩ = some (.string d.k) ∧ u.cell? ⟨w.heap.size + 1, 2, none⟩ = some (.string d.v) ∧ u.cell? ⟨w.heap.size + 1, 3, none⟩ = some (.int .i64 d.to)) u from fun u hb => by
      obtain ⟨⟨m0, m1, m2, m3, m4⟩, ⟨j0, j1, j2, j3⟩, _, _⟩ := unhide AC _ hb
      exact ⟨hb, m0, m1, m2, m3, m4, j0, j1, j2, j3⟩)
    go_region_held3 (fun u => Below w2.heap.size w2 u ∧ u.cell? ⟨w.heap.size, 0, none⟩ = some (.string lo) ∧ u.cell? ⟨w.heap.size, 1, none⟩ = some (.string hi) ∧ u.cell? ⟨w.heap.size, 2, none⟩ = some (.int .i64 r) ∧ u.cell? ⟨w.heap.size, 3, none⟩ = some (.slice ab nb cb) ∧ u.cell? ⟨w.heap.size, 4, none⟩ = some (.slice ac nc cc) ∧ u.cell? ⟨w.heap.size + 1, 0, none⟩ = some (.int .i64 d.kind) ∧ u.cell? ⟨w.heap.size + 1, 1, none⟩ = some (.string d.k) ∧ u.cell? ⟨w.heap.size + 1, 2, none⟩ = some (.string d.v) ∧ u.cell? ⟨w.heap.size + 1, 3, none⟩ = some (.int .i64 d.to)) (with_reducible first | exact unhide SK _ hbf | exact unhide SK _ (hbf.alloc hbf.size _) | exact unhide SK _ (hb00.alloc hb00.size _).drew | exact unhide SK _ (bel_drewN (hb00.alloc hb00.size _) 1) | exact unhide SK _ (set5_below hbf (unhide BK).ge _ _ _ _ _)) (first
      | (go_at_call 11; have zbf := hbf.size; refine (unhide CT _ (by first | (with_reducible exact hbf) | (with_reducible exact hbf.alloc hbf.size _) | (with_reducible exact (hb00.alloc hb00.size _).drew) | (with_reducible exact bel_drewN (hb00.alloc hb00.size _) 1))).mono ?_; rintro e wt ⟨gt, ht, rfl, ot, hbu, hbf⟩; have OT := hide ot; clear ot; skip; (first | ((with_reducible have hAl := is_alloc hbu); have BK := hide (pk_of (B := w2.heap.size) hAl zbf); clear hAl) | ((with_reducible have hAl := is_allocD hbu); have BK := hide (pk_of (B := w2.heap.size) hAl zbf); clear hAl) | (replace BK := hide ((unhide BK).step hbu)) | skip))
      | (go_at_call 20; have zbf := hbf.size; refine (unhide CD _ (by first | (with_reducible exact hbf) | (with_reducible exact hbf.alloc hbf.size _) | (with_reducible exact (hb00.alloc hb00.size _).drew) | (with_reducible exact bel_drewN (hb00.alloc hb00.size _) 1))).mono ?_; rintro e wd ⟨rfl, hbu, hbf⟩; skip; (first | ((with_reducible have hAl := is_alloc hbu); have BK := hide (pk_of (B := w2.heap.size) hAl zbf); clear hAl) | ((with_reducible have hAl := is_allocD hbu); have BK := hide (pk_of (B := w2.heap.size) hAl zbf); clear hAl) | (replace BK := hide ((unhide BK).step hbu)) | skip); (first | (with_reducible replace OT := hide ((unhide OT).below hbu)) | (replace OT := hide (((unhide OT).below ((Below.refl _ _).alloc (Nat.le_refl _) _)).below hbu)) | skip))
      | (go_at_call 19; have zbf := hbf.size; (refine (unhide CX _ (by first | (with_reducible exact hbf) | (with_reducible exact hbf.alloc hbf.size _) | (with_reducible exact (hb00.alloc hb00.size _).drew) | (with_reducible exact bel_drewN (hb00.alloc hb00.size _) 1)) gt ht _ (by first | (with_reducible exact unhide OT) | exact (unhide OT).below ((Below.refl _ _).alloc (Nat.le_refl _) _))).mono ?_); (rintro e w10 ⟨a10, n10, c10, a11, n11, c11, rfl, o10, hle, hbu, hbf⟩); ((first | (with_reducible have NBK := hide (nb_new o10)) | (with_reducible have NBK := hide (nb_newD o10)) | (have NBK := hide (nb_old (unhide BK) o10)) | skip)); ((first | ((with_reducible have hAl := is_alloc hbu); have BK := hide (pk_of (B := w2.heap.size) hAl zbf); clear hAl; have yy := pg_cells5 (unhide BK).2; have ff := fz_cells (unhide BK).2; obtain ⟨y0, y1, y2, y3, y4⟩ := yy; obtain ⟨f0, f1, f2, f3, f4⟩ := ff) | ((with_reducible have hAl := is_allocD hbu); have BK := hide (pk_of (B := w2.heap.size) hAl zbf); clear hAl; have yy := pg_cells5 (unhide BK).2; have ff := fz_cells (unhide BK).2; obtain ⟨y0, y1, y2, y3, y4⟩ := yy; obtain ⟨f0, f1, f2, f3, f4⟩ := ff) | (replace BK := hide ((unhide BK).step hbu); have yy := pg_cells5 (unhide BK).2; have ff := fz_cells (unhide BK).2; obtain ⟨y0, y1, y2, y3, y4⟩ := yy; obtain ⟨f0, f1, f2, f3, f4⟩ := ff) | skip)); (have O10 := hide o10; clear o10)))
    all_goals
      go_wp2_with fail
      go_meet
      case rel => first | (with_reducible exact left_box (unhide BK) (unhide NBK) (unhide O10) hle hbf) | exact left_last (unhide O10) hle hbf
  case rest =>
    clear CD CX AC CT
    obtain ⟨b_w, a_w, n_w, c_w, u_w, v_w, x_w, rfl, rfl, hX, hO, ⟨hbb, hnn⟩, hb⟩ := hcut
    have NB_w := hide hnn
    have LB_w := hbb
    have O_w := hide hO
    have K_w := hide hX
    have I_w := fun i (h : PgBlk a_w n_w c_w u_w v_w x_w i) => (unhide O_w).blk h
    have T_w := heap_lt (unhide K_w)
    have N_w := hide (unhide O_w).len
    have n32_w : n_w ≤ 32 ∧ v_w ≤ 12 := by have := unhide N_w; omega
    obtain ⟨w_w, hwr⟩ : ∃ w_w : World, w_w = wc := ⟨_, rfl⟩
    rw [← hwr] at hb O_w K_w I_w T_w ⊢
    replace K_a := hide ((hb.block w.heap.size (heap_lt (unhide K_a))).trans (unhide K_a))
    replace K_d := hide ((hb.block (w.heap.size + 1) (heap_lt (unhide K_d))).trans (unhide K_d))
    replace B := B.trans (hb.mono B.size)
    have zz_w_w := hb.size
    clear hb hwr hX hO hnn hbb
    obtain ⟨p_a0, p_a1, p_a2, p_a3, p_a4⟩ := pg_cells5 (unhide K_a)
    go_wp2_with fail
    refine (toPage_any lo hi r ab nb cb es ac nc cc ds w_w hnb hnc ((unhide P).below B)).mono ?_
    rintro e w_x ⟨g_x, h_x, rfl, oo, hb⟩
    have O_x := hide (pgown_of oo)
    have I_x := fun i (h : PgBlk (some ⟨g_x, 0, none⟩) nb nb (some ⟨h_x, 0, none⟩) nc nc i) => (unhide O_x).blk h
    replace K_a := hide ((hb.block w.heap.size (heap_lt (unhide K_a))).trans (unhide K_a))
    replace K_d := hide ((hb.block (w.heap.size + 1) (heap_lt (unhide K_d))).trans (unhide K_d))
    replace K_w := hide ((hb.block b_w (heap_lt (unhide K_w))).trans (unhide K_w))
    replace O_w := hide ((unhide O_w).below hb)
    replace B := B.trans (hb.mono B.size)
    have zz_w_x := hb.size
    clear hb oo
    clear p_a0 p_a1 p_a2 p_a3 p_a4
    have hb : Below w_x.heap.size w_x (w_x.alloc (.cells #[.string lo, .string hi, .int .i64 r, .slice (some ⟨g_x, 0, none⟩) nb nb, .slice (some ⟨h_x, 0, none⟩) nc nc] 31)) := (Below.refl _ _).alloc (Nat.le_refl _) _
    replace K_a := hide ((hb.block w.heap.size (heap_lt (unhide K_a))).trans (unhide K_a))
    replace K_d := hide ((hb.block (w.heap.size + 1) (heap_lt (unhide K_d))).trans (unhide K_d))
    replace K_w := hide ((hb.block b_w (heap_lt (unhide K_w))).trans (unhide K_w))
    replace O_w := hide ((unhide O_w).below hb)
    replace O_x := hide ((unhide O_x).below hb)
    replace B := B.trans (hb.mono B.size)
    have zz_zbx_x := hb.size
    have K_x := hide (heap_alloc_new w_x (.cells #[.string lo, .string hi, .int .i64 r, .slice (some ⟨g_x, 0, none⟩) nb nb, .slice (some ⟨h_x, 0, none⟩) nc nc] 31))
    have zb_x : (w_x.alloc (.cells #[.string lo, .string hi, .int .i64 r, .slice (some ⟨g_x, 0, none⟩) nb nb, .slice (some ⟨h_x, 0, none⟩) nc nc] 31)).heap.size = w_x.heap.size + 1 := by simp
    clear hb
    go_upto_region 10 with fail
    generalize w_x.alloc (.cells #[.string lo, .string hi, .int .i64 r, .slice (some ⟨g_x, 0, none⟩) nb nb, .slice (some ⟨h_x, 0, none⟩) nc nc] 31) = v_x0 at *
    generalize w_x.heap.size = b_x at *
    replace zb_x : b_x < v_x0.heap.size := by omega
    have CD := hide (fun (u : World) (hb : Below v_x0.heap.size v_x0 u) => (toDelta_any d u).mono fun e u' h => show e = .returned (dv d) ∧ Below u.heap.size u u' ∧ Below v_x0.heap.size v_x0 u' from ⟨h.1, h.2, hb.trans (h.2.mono hb.size)⟩)
    have CX := hide (fun (u : World) (hb : Below v_x0.heap.size v_x0 u) (g h : Nat) (C : Nat) (ho : PgOwn u C (some ⟨g, 0, none⟩) nb nb (some ⟨h, 0, none⟩) nc nc es ds) => (implExtend_any lo hi r (some ⟨g, 0, none⟩) nb nb es (some ⟨h, 0, none⟩) nc nc ds d u (erow_of_owns ho.1) (drow_of_owns ho.2.1) (fun h => by cases h) (fun h => by cases h)).mono fun e u' hx => show ∃ a n c a2 n2 c2, e = .returned (.tuple #[pgv cl ch cr a n c a2 n2 c2, .int .i64 ck]) ∧ PgOwn u' u.heap.size a n c a2 n2 c2 ce cd ∧ v_x0.heap.size ≤ u.heap.size ∧ Below u.heap.size u u' ∧ Below v_x0.heap.size v_x0 u' by
      obtain ⟨a, n, c, a2, n2, c2, e, o, b⟩ := unhide CON _ _ _ hx
      exact ⟨a, n, c, a2, n2, c2, e, o, hb.size, b, hb.trans (b.mono hb.size)⟩)
    have AC := hide (fun (u : World) (hb : Below v_x0.heap.size v_x0 u) => argC (unhide K_a) (unhide K_d) hb)
    have XC := hide (fun (u : World) (hb : Below v_x0.heap.size v_x0 u) => And.intro (pg_cells5 ((hb.block b_x (heap_lt (unhide K_x))).trans (unhide K_x))) (heap_lt ((hb.block b_x (heap_lt (unhide K_x))).trans (unhide K_x))))
    go_upto_region 10 with fail
    go_cut [9, 10] (fun v6 v7 wc => Left v_x0 cl ch cr ck ce cd v6 v7 wc)
    case first =>
      have hb00 := Below.refl v_x0.heap.size v_x0
      have hbf : Below v_x0.heap.size v_x0 v_x0.drew := hb00.drew
      have SK := hide (show ∀ u, Below v_x0.heap.size v_x0 u → (fun u => Below v_x0.heap.size v_x0 u ∧ u.cell? ⟨w.heap.size, 0, none⟩ = some (.string lo) ∧ u.cell? ⟨w.heap.size, 1, none⟩ = some (.string hi) ∧ u.cell? ⟨w.heap.size, 2, none⟩ = some (.int .i64 r) ∧ u.cell? ⟨w.heap.size, 3, none⟩ = some (.slice ab nb cb) ∧ u.cell? ⟨w.heap.size, 4, none⟩ = some (.slice ac nc cc) ∧ u.cell? ⟨w.heap.size + 1, 0, none⟩ = some (.int .i64 d.kind) ∧ u.cell? ⟨w.heap.size + 1, 1, none⟩ = some (.string d.k) ∧ u.cell? ⟨w.heap.size + 1, 2, none⟩ = some (.string d.v) ∧ u.cell? ⟨w.heap.size + 1, 3, none⟩ = some (.int .i64 d.to) ∧ u.cell? ⟨b_x, 0, none⟩ = some (.string lo) ∧ u.cell? ⟨b_x, 1, none⟩ = some (.string hi) ∧ u.cell? ⟨b_x, 2, none⟩ = some (.int .i64 r) ∧ u.cell? ⟨b_x, 3, none⟩ = some (.slice (some ⟨g_x, 0, none⟩) nb nb) ∧ u.cell? ⟨b_x, 4, none⟩ = some (.slice (some ⟨h_x, 0, none⟩) nc nc)) u from fun u hb => by
        obtain ⟨⟨m0, m1, m2, m3, m4⟩, ⟨j0, j1, j2, j3⟩, _, _⟩ := unhide AC _ hb
        obtain ⟨⟨i0, i1, i2, i3, i4⟩, _⟩ := unhide XC _ hb
        exact ⟨hb, m0, m1, m2, m3, m4, j0, j1, j2, j3, i0, i1, i2, i3, i4⟩)
      go_region_held3 (fun u => Below v_x0.heap.size v_x0 u ∧ u.cell? ⟨w.heap.size, 0, none⟩ = some (.string lo) ∧ u.cell? ⟨w.heap.size, 1, none⟩ = some (.string hi) ∧ u.cell? ⟨w.heap.size, 2, none⟩ = some (.int .i64 r) ∧ u.cell? ⟨w.heap.size, 3, none⟩ = some (.slice ab nb cb) ∧ u.cell? ⟨w.heap.size, 4, none⟩ = some (.slice ac nc cc) ∧ u.cell? ⟨w.heap.size + 1, 0, none⟩ = some (.int .i64 d.kind) ∧ u.cell? ⟨w.heap.size + 1, 1, none⟩ = some (.string d.k) ∧ u.cell? ⟨w.heap.size + 1, 2, none⟩ = some (.string d.v) ∧ u.cell? ⟨w.heap.size + 1, 3, none⟩ = some (.int .i64 d.to) ∧ u.cell? ⟨b_x, 0, none⟩ = some (.string lo) ∧ u.cell? ⟨b_x, 1, none⟩ = some (.string hi) ∧ u.cell? ⟨b_x, 2, none⟩ = some (.int .i64 r) ∧ u.cell? ⟨b_x, 3, none⟩ = some (.slice (some ⟨g_x, 0, none⟩) nb nb) ∧ u.cell? ⟨b_x, 4, none⟩ = some (.slice (some ⟨h_x, 0, none⟩) nc nc)) (with_reducible first | exact unhide SK _ hbf | exact unhide SK _ (hbf.alloc hbf.size _) | exact unhide SK _ (hb00.alloc hb00.size _).drew | exact unhide SK _ (bel_drewN (hb00.alloc hb00.size _) 1) | exact unhide SK _ (set5_below hbf (unhide BK).ge _ _ _ _ _)) (first
        | (go_at_call 20; have zbf := hbf.size; refine (unhide CD _ (by first | (with_reducible exact hbf) | (with_reducible exact hbf.alloc hbf.size _) | (with_reducible exact (hb00.alloc hb00.size _).drew) | (with_reducible exact bel_drewN (hb00.alloc hb00.size _) 1))).mono ?_; rintro e wd ⟨rfl, hbu, hbf⟩; skip; (first | ((with_reducible have hAl := is_alloc hbu); have BK := hide (pk_of (B := v_x0.heap.size) hAl zbf); clear hAl) | ((with_reducible have hAl := is_allocD hbu); have BK := hide (pk_of (B := v_x0.heap.size) hAl zbf); clear hAl) | (replace BK := hide ((unhide BK).step hbu)) | skip))
        | (go_at_call 21; have zbf := hbf.size; (refine (unhide CX _ (by first | (with_reducible exact hbf) | (with_reducible exact hbf.alloc hbf.size _) | (with_reducible exact (hb00.alloc hb00.size _).drew) | (with_reducible exact bel_drewN (hb00.alloc hb00.size _) 1)) g_x h_x _ ((unhide O_x).below (by first | (with_reducible exact hbf) | (with_reducible exact hbf.alloc hbf.size _) | (with_reducible exact (hb00.alloc hb00.size _).drew) | (with_reducible exact bel_drewN (hb00.alloc hb00.size _) 1)))).mono ?_); (rintro e w10 ⟨a10, n10, c10, a11, n11, c11, rfl, o10, hle, hbu, hbf⟩); ((first | (with_reducible have NBK := hide (nb_new o10)) | (with_reducible have NBK := hide (nb_newD o10)) | (have NBK := hide (nb_old (unhide BK) o10)) | skip)); ((first | ((with_reducible have hAl := is_alloc hbu); have BK := hide (pk_of (B := v_x0.heap.size) hAl zbf); clear hAl; have yy := pg_cells5 (unhide BK).2; have ff := fz_cells (unhide BK).2; obtain ⟨y0, y1, y2, y3, y4⟩ := yy; obtain ⟨f0, f1, f2, f3, f4⟩ := ff) | ((with_reducible have hAl := is_allocD hbu); have BK := hide (pk_of (B := v_x0.heap.size) hAl zbf); clear hAl; have yy := pg_cells5 (unhide BK).2; have ff := fz_cells (unhide BK).2; obtain ⟨y0, y1, y2, y3, y4⟩ := yy; obtain ⟨f0, f1, f2, f3, f4⟩ := ff) | (replace BK := hide ((unhide BK).step hbu); have yy := pg_cells5 (unhide BK).2; have ff := fz_cells (unhide BK).2; obtain ⟨y0, y1, y2, y3, y4⟩ := yy; obtain ⟨f0, f1, f2, f3, f4⟩ := ff) | skip)); (have O10 := hide o10; clear o10)))
      all_goals
        go_wp2_with fail
        go_meet
        case rel => first | (with_reducible exact left_box (unhide BK) (unhide NBK) (unhide O10) hle hbf) | exact left_last (unhide O10) hle hbf
    case rest =>
      clear CD CX AC XC
      obtain ⟨b_g, a_g, n_g, c_g, u_g, v_g, x_g, rfl, rfl, hX, hO, ⟨hbb, hnn⟩, hb⟩ := hcut
      have NB_g := hide hnn
      have LB_g := hbb
      have O_g := hide hO
      have K_g := hide hX
      have I_g := fun i (h : PgBlk a_g n_g c_g u_g v_g x_g i) => (unhide O_g).blk h
      have T_g := heap_lt (unhide K_g)
      have N_g := hide (unhide O_g).len
      have n32_g : n_g ≤ 32 ∧ v_g ≤ 12 := by have := unhide N_g; omega
      obtain ⟨w_g, hwr⟩ : ∃ w_g : World, w_g = wc := ⟨_, rfl⟩
      rw [← hwr] at hb O_g K_g I_g T_g ⊢
      replace K_a := hide ((hb.block w.heap.size (heap_lt (unhide K_a))).trans (unhide K_a))
      replace K_d := hide ((hb.block (w.heap.size + 1) (heap_lt (unhide K_d))).trans (unhide K_d))
      replace K_w := hide ((hb.block b_w (heap_lt (unhide K_w))).trans (unhide K_w))
      replace K_x := hide ((hb.block b_x (heap_lt (unhide K_x))).trans (unhide K_x))
      replace O_w := hide ((unhide O_w).below hb)
      replace O_x := hide ((unhide O_x).below hb)
      replace B := B.trans (hb.mono B.size)
      have zz_w_g := hb.size
      clear hb hwr hX hO hnn hbb
      obtain ⟨p_g0, p_g1, p_g2, p_g3, p_g4⟩ := pg_cells5 (unhide K_g)
      obtain ⟨p_w0, p_w1, p_w2, p_w3, p_w4⟩ := pg_cells5 (unhide K_w)
      go_wp2_with fail
      refine (eqPage_own cl ch cr _ _ a_g n_g c_g u_g v_g x_g a_w n_w c_w u_w v_w x_w ce cd w_g (unhide O_g) (unhide O_w) (by omega) (by omega)).mono ?_
      rintro e e0 ⟨rfl, hb⟩
      replace K_a := hide ((hb.block w.heap.size (heap_lt (unhide K_a))).trans (unhide K_a))
      replace K_d := hide ((hb.block (w.heap.size + 1) (heap_lt (unhide K_d))).trans (unhide K_d))
      replace K_w := hide ((hb.block b_w (heap_lt (unhide K_w))).trans (unhide K_w))
      replace K_x := hide ((hb.block b_x (heap_lt (unhide K_x))).trans (unhide K_x))
      replace K_g := hide ((hb.block b_g (heap_lt (unhide K_g))).trans (unhide K_g))
      replace O_w := hide ((unhide O_w).below hb)
      replace O_x := hide ((unhide O_x).below hb)
      replace O_g := hide ((unhide O_g).below hb)
      replace B := B.trans (hb.mono B.size)
      have zz_e0 := hb.size
      clear hb
      clear p_g0 p_g1 p_g2 p_g3 p_g4
      clear p_w0 p_w1 p_w2 p_w3 p_w4
      obtain ⟨p_a0, p_a1, p_a2, p_a3, p_a4⟩ := pg_cells5 (unhide K_a)
      obtain ⟨p_x0, p_x1, p_x2, p_x3, p_x4⟩ := pg_cells5 (unhide K_x)
      have KP := hide (show ∀ w', w' = e0 ∨ w' = e0.drew ∨ (∃ n, w' = e0.drewN n) → Calls Try.prog 11 #[pgv lo hi r ab nb cb ac nc cc] w' fun e w7 => ∃ g' h', e = .returned (pgv lo hi r (some ⟨g', 0, none⟩) nb nb (some ⟨h', 0, none⟩) nc nc) ∧ OwnPage w7 e0.heap.size g' h' nb nc es ds ∧ Below e0.heap.size e0 w7 from fun w' h' => by
        rcases h' with rfl | rfl | ⟨n, rfl⟩
        · exact toPage_any lo hi r ab nb cb es ac nc cc ds _ hnb hnc ((unhide P).below B)
        · refine (toPage_any lo hi r ab nb cb es ac nc cc ds e0.drew hnb hnc ((unhide P).below B.drew)).mono ?_
          rintro e w7 ⟨g', h', e, o, b⟩
          exact ⟨g', h', e, o, bel_of_drew b⟩
        · refine (toPage_any lo hi r ab nb cb es ac nc cc ds (e0.drewN n) hnb hnc ((unhide P).below (bel_drewN B n))).mono ?_
          rintro e w7 ⟨g', h', e, o, b⟩
          exact ⟨g', h', e, o, bel_of_drewN b⟩)
      have YP := hide (show ∀ w7, Below e0.heap.size e0 w7 → _ ∧ PgOwn w7 _ (some ⟨g_x, 0, none⟩) nb nb (some ⟨h_x, 0, none⟩) nc nc es ds from fun w7 hb => ⟨pg_cells5 ((hb.block b_x (heap_lt (unhide K_x))).trans (unhide K_x)), (unhide O_x).below hb⟩)
      go_wp2_with fail
      go_region_with (first
        | (go_at_call 11; refine (unhide KP _ (by first | exact .inl rfl | exact .inr (.inl rfl) | exact .inr (.inr ⟨_, rfl⟩))).mono ?_; rintro e w7 ⟨g', h', rfl, o7, b7⟩; obtain ⟨⟨t0', t1', t2', t3', t4'⟩, o7'⟩ := unhide YP w7 b7; have H7 := hide (pgown_of o7); have H7' := hide o7'; clear o7 o7')
        | (go_at_call 13; refine (eqPage_own lo hi r _ _ _ _ _ _ _ _ _ _ _ _ _ _ es ds _ (unhide H7') (unhide H7) hln hlc).mono ?_; rintro e w8 ⟨rfl, b8⟩; have b78 := b7.trans (b8.mono b7.size); clear b8))
      all_goals
        clear t0' t1' t2' t3' t4' H7 H7' b7 KP YP
        clear p_a0 p_a1 p_a2 p_a3 p_a4
        clear p_x0 p_x1 p_x2 p_x3 p_x4
        replace K_a := hide ((b78.block w.heap.size (heap_lt (unhide K_a))).trans (unhide K_a))
        replace K_d := hide ((b78.block (w.heap.size + 1) (heap_lt (unhide K_d))).trans (unhide K_d))
        replace K_w := hide ((b78.block b_w (heap_lt (unhide K_w))).trans (unhide K_w))
        replace K_x := hide ((b78.block b_x (heap_lt (unhide K_x))).trans (unhide K_x))
        replace K_g := hide ((b78.block b_g (heap_lt (unhide K_g))).trans (unhide K_g))
        replace O_w := hide ((unhide O_w).below b78)
        replace O_x := hide ((unhide O_x).below b78)
        replace O_g := hide ((unhide O_g).below b78)
        replace B := B.trans (b78.mono B.size)
        have zz_w8 := b78.size
        clear b78
        obtain ⟨p_x0, p_x1, p_x2, p_x3, p_x4⟩ := pg_cells5 (unhide K_x)
        go_wp2_with fail
        refine (markPage_own lo hi r _ 1 _ nb nb _ nc nc es ds w8 (unhide O_x) (by omega) (by omega)).mono ?_
        rintro e wm ⟨rfl, oo, hw⟩
        clear p_x0 p_x1 p_x2 p_x3 p_x4
        clear O_x
        replace K_a := hide ((hw.block w.heap.size (heap_lt (unhide K_a)) (fun h => by have := I_x _ h; omega)).trans (unhide K_a))
        replace K_d := hide ((hw.block (w.heap.size + 1) (heap_lt (unhide K_d)) (fun h => by have := I_x _ h; omega)).trans (unhide K_d))
        replace K_w := hide ((hw.block b_w (heap_lt (unhide K_w)) (fun h => by have := I_x _ h; omega)).trans (unhide K_w))
        replace K_x := hide ((hw.block b_x (heap_lt (unhide K_x)) (fun h => by have := I_x _ h; omega)).trans (unhide K_x))
        replace K_g := hide ((hw.block b_g (heap_lt (unhide K_g)) (fun h => by have := I_x _ h; omega)).trans (unhide K_g))
        replace O_w := hide ((unhide O_w).wr hw (fun i hi h => by have h1 := I_w _ hi; have h2 := I_x _ h; omega))
        replace O_g := hide ((unhide O_g).wr hw (fun i hi h => by have h1 := I_g _ hi; have h2 := I_x _ h; omega))
        replace B := B.trans (hw.below (fun i h => by have := I_x _ h; omega) B.size)
        have zz_wm := hw.size
        clear hw oo
        have hk0 : ¬ (((1 + 2 * nb + 4 * nc : Nat) : Int) < 0) := by omega
        generalize (1 + 2 * nb + 4 * nc : Nat) = km at *
        obtain ⟨p_g0, p_g1, p_g2, p_g3, p_g4⟩ := pg_cells5 (unhide K_g)
        obtain ⟨p_w0, p_w1, p_w2, p_w3, p_w4⟩ := pg_cells5 (unhide K_w)
        go_wp2_with fail
        refine (eqPage_own cl ch cr _ _ a_g n_g c_g u_g v_g x_g a_w n_w c_w u_w v_w x_w ce cd wm (unhide O_g) (unhide O_w) (by omega) (by omega)).mono ?_
        rintro e e1 ⟨rfl, hb⟩
        replace K_a := hide ((hb.block w.heap.size (heap_lt (unhide K_a))).trans (unhide K_a))
        replace K_d := hide ((hb.block (w.heap.size + 1) (heap_lt (unhide K_d))).trans (unhide K_d))
        replace K_w := hide ((hb.block b_w (heap_lt (unhide K_w))).trans (unhide K_w))
        replace K_x := hide ((hb.block b_x (heap_lt (unhide K_x))).trans (unhide K_x))
        replace K_g := hide ((hb.block b_g (heap_lt (unhide K_g))).trans (unhide K_g))
        replace O_w := hide ((unhide O_w).below hb)
        replace O_g := hide ((unhide O_g).below hb)
        replace B := B.trans (hb.mono B.size)
        have zz_e1 := hb.size
        clear hb
        clear p_g0 p_g1 p_g2 p_g3 p_g4
        clear p_w0 p_w1 p_w2 p_w3 p_w4
        obtain ⟨p_g0, p_g1, p_g2, p_g3, p_g4⟩ := pg_cells5 (unhide K_g)
        go_wp2_with fail
        refine (markPage_own cl ch cr _ 1 a_g n_g c_g u_g v_g x_g ce cd e1 (unhide O_g) (by omega) (by omega)).mono ?_
        rintro e wn ⟨rfl, oo, hw⟩
        clear p_g0 p_g1 p_g2 p_g3 p_g4
        replace O_g := hide oo
        have KG := hide ((hw.block b_g (heap_lt (unhide K_g)) (unhide NB_g)).trans (unhide K_g))
        replace K_a := hide ((hw.block w.heap.size (heap_lt (unhide K_a)) (fun h => by have := I_g _ h; omega)).trans (unhide K_a))
        replace K_d := hide ((hw.block (w.heap.size + 1) (heap_lt (unhide K_d)) (fun h => by have := I_g _ h; omega)).trans (unhide K_d))
        replace K_w := hide ((hw.block b_w (heap_lt (unhide K_w)) (fun h => by have := I_g _ h; omega)).trans (unhide K_w))
        replace K_x := hide ((hw.block b_x (heap_lt (unhide K_x)) (fun h => by have := I_g _ h; omega)).trans (unhide K_x))
        replace O_w := hide ((unhide O_w).wr hw (fun i hi h => by have h1 := I_w _ hi; have h2 := I_g _ h; omega))
        replace B := B.trans (hw.below (fun i h => by have := I_g _ h; omega) B.size)
        have zz_wn := hw.size
        replace K_g := KG
        clear hw oo KG
        obtain ⟨p_g0, p_g1, p_g2, p_g3, p_g4⟩ := pg_cells5 (unhide K_g)
        go_wp2_with fail
        refine (heldPage_own cl ch cr _ 1 a_g n_g c_g u_g v_g x_g wn (unhide O_g) (by omega) (by omega)).mono ?_
        rintro e h2 ⟨rfl, hb⟩
        replace K_a := hide ((hb.block w.heap.size (heap_lt (unhide K_a))).trans (unhide K_a))
        replace K_d := hide ((hb.block (w.heap.size + 1) (heap_lt (unhide K_d))).trans (unhide K_d))
        replace K_w := hide ((hb.block b_w (heap_lt (unhide K_w))).trans (unhide K_w))
        replace K_x := hide ((hb.block b_x (heap_lt (unhide K_x))).trans (unhide K_x))
        replace K_g := hide ((hb.block b_g (heap_lt (unhide K_g))).trans (unhide K_g))
        replace O_w := hide ((unhide O_w).below hb)
        replace O_g := hide ((unhide O_g).below hb)
        replace B := B.trans (hb.mono B.size)
        have zz_h2 := hb.size
        clear hb
        clear p_g0 p_g1 p_g2 p_g3 p_g4
        have hk1 : ¬ (((1 + 2 * n_g + 4 * v_g : Nat) : Int) < 0) := by omega
        have CD := hide (fun (u : World) (hb : Below h2.heap.size h2 u) => (toDelta_any d u).mono fun e u' h => show e = .returned (dv d) ∧ Below u.heap.size u u' ∧ Below h2.heap.size h2 u' from ⟨h.1, h.2, hb.trans (h.2.mono hb.size)⟩)
        have CT := hide (fun (u : World) (hb : Below h2.heap.size h2 u) => (toPage_any lo hi r ab nb cb es ac nc cc ds u hnb hnc ((unhide P).below (B.trans (hb.mono B.size)))).mono fun e u' h => show ∃ g h, e = .returned (pgv lo hi r (some ⟨g, 0, none⟩) nb nb (some ⟨h, 0, none⟩) nc nc) ∧ PgOwn u' h2.heap.size (some ⟨g, 0, none⟩) nb nb (some ⟨h, 0, none⟩) nc nc es ds ∧ Below u.heap.size u u' ∧ Below h2.heap.size h2 u' by
          obtain ⟨g, h, e, o, b⟩ := h
          exact ⟨g, h, e, (pgown_of o).base hb.size, b, hb.trans (b.mono hb.size)⟩)
        have CX := hide (fun (u : World) (hb : Below h2.heap.size h2 u) (g h : Nat) (C : Nat) (ho : PgOwn u C (some ⟨g, 0, none⟩) nb nb (some ⟨h, 0, none⟩) nc nc es ds) => (implExtend_any lo hi r (some ⟨g, 0, none⟩) nb nb es (some ⟨h, 0, none⟩) nc nc ds d u (erow_of_owns ho.1) (drow_of_owns ho.2.1) (fun h => by cases h) (fun h => by cases h)).mono fun e u' hx => show ∃ a n c a2 n2 c2, e = .returned (.tuple #[pgv cl ch cr a n c a2 n2 c2, .int .i64 ck]) ∧ PgOwn u' u.heap.size a n c a2 n2 c2 ce cd ∧ h2.heap.size ≤ u.heap.size ∧ Below u.heap.size u u' ∧ Below h2.heap.size h2 u' by
          obtain ⟨a, n, c, a2, n2, c2, e, o, b⟩ := unhide CON _ _ _ hx
          exact ⟨a, n, c, a2, n2, c2, e, o, hb.size, b, hb.trans (b.mono hb.size)⟩)
        have AC := hide (fun (u : World) (hb : Below h2.heap.size h2 u) => argC (unhide K_a) (unhide K_d) hb)
        go_upto_region 27 with fail
        go_cut [14, 15] (fun v6 v7 wc => Left h2 cl ch cr ck ce cd v6 v7 wc)
        case first =>
          have hb00 := Below.refl h2.heap.size h2
          have hbf : Below h2.heap.size h2 h2.drew := hb00.drew
          have SK := hide (show ∀ u, Below h2.heap.size h2 u → (fun u => Below h2.heap.size h2 u ∧ u.cell? ⟨w.heap.size, 0, none⟩ = some (.string lo) ∧ u.cell? ⟨w.heap.size, 1, none⟩ = some (.string hi) ∧ u.cell? ⟨w.heap.size, 2, none⟩ = some (.int .i64 r) ∧ u.cell? ⟨w.heap.size, 3, none⟩ = some (.slice ab nb cb) ∧ u.cell? ⟨w.heap.size, 4, none⟩ = some (.slice ac nc cc) ∧ u.cell? ⟨w.heap.size + 1, 0, none⟩ = some (.int .i64 d.kind) ∧ u.cell? ⟨w.heap.size + 1, 1, none⟩ = some (.string d.k) ∧ u.cell? ⟨w.heap.size + 1, 2, none⟩ = some (.string d.v) ∧ u.cell? ⟨w.heap.size + 1, 3, none⟩ = some (.int .i64 d.to)) u from fun u hb => by
            obtain ⟨⟨m0, m1, m2, m3, m4⟩, ⟨j0, j1, j2, j3⟩, _, _⟩ := unhide AC _ hb
            exact ⟨hb, m0, m1, m2, m3, m4, j0, j1, j2, j3⟩)
          go_region_held3 (fun u => Below h2.heap.size h2 u ∧ u.cell? ⟨w.heap.size, 0, none⟩ = some (.string lo) ∧ u.cell? ⟨w.heap.size, 1, none⟩ = some (.string hi) ∧ u.cell? ⟨w.heap.size, 2, none⟩ = some (.int .i64 r) ∧ u.cell? ⟨w.heap.size, 3, none⟩ = some (.slice ab nb cb) ∧ u.cell? ⟨w.heap.size, 4, none⟩ = some (.slice ac nc cc) ∧ u.cell? ⟨w.heap.size + 1, 0, none⟩ = some (.int .i64 d.kind) ∧ u.cell? ⟨w.heap.size + 1, 1, none⟩ = some (.string d.k) ∧ u.cell? ⟨w.heap.size + 1, 2, none⟩ = some (.string d.v) ∧ u.cell? ⟨w.heap.size + 1, 3, none⟩ = some (.int .i64 d.to)) (with_reducible first | exact unhide SK _ hbf | exact unhide SK _ (hbf.alloc hbf.size _) | exact unhide SK _ (hb00.alloc hb00.size _).drew | exact unhide SK _ (bel_drewN (hb00.alloc hb00.size _) 1) | exact unhide SK _ (set5_below hbf (unhide BK).ge _ _ _ _ _)) (first
            | (go_at_call 11; have zbf := hbf.size; refine (unhide CT _ (by first | (with_reducible exact hbf) | (with_reducible exact hbf.alloc hbf.size _) | (with_reducible exact (hb00.alloc hb00.size _).drew) | (with_reducible exact bel_drewN (hb00.alloc hb00.size _) 1))).mono ?_; rintro e wt ⟨gt, ht, rfl, ot, hbu, hbf⟩; have OT := hide ot; clear ot; skip; (first | ((with_reducible have hAl := is_alloc hbu); have BK := hide (pk_of (B := h2.heap.size) hAl zbf); clear hAl) | ((with_reducible have hAl := is_allocD hbu); have BK := hide (pk_of (B := h2.heap.size) hAl zbf); clear hAl) | (replace BK := hide ((unhide BK).step hbu)) | skip))
            | (go_at_call 20; have zbf := hbf.size; refine (unhide CD _ (by first | (with_reducible exact hbf) | (with_reducible exact hbf.alloc hbf.size _) | (with_reducible exact (hb00.alloc hb00.size _).drew) | (with_reducible exact bel_drewN (hb00.alloc hb00.size _) 1))).mono ?_; rintro e wd ⟨rfl, hbu, hbf⟩; skip; (first | ((with_reducible have hAl := is_alloc hbu); have BK := hide (pk_of (B := h2.heap.size) hAl zbf); clear hAl) | ((with_reducible have hAl := is_allocD hbu); have BK := hide (pk_of (B := h2.heap.size) hAl zbf); clear hAl) | (replace BK := hide ((unhide BK).step hbu)) | skip); (first | (with_reducible replace OT := hide ((unhide OT).below hbu)) | (replace OT := hide (((unhide OT).below ((Below.refl _ _).alloc (Nat.le_refl _) _)).below hbu)) | skip))
            | (go_at_call 21; have zbf := hbf.size; (refine (unhide CX _ (by first | (with_reducible exact hbf) | (with_reducible exact hbf.alloc hbf.size _) | (with_reducible exact (hb00.alloc hb00.size _).drew) | (with_reducible exact bel_drewN (hb00.alloc hb00.size _) 1)) gt ht _ (by first | (with_reducible exact unhide OT) | exact (unhide OT).below ((Below.refl _ _).alloc (Nat.le_refl _) _))).mono ?_); (rintro e w10 ⟨a10, n10, c10, a11, n11, c11, rfl, o10, hle, hbu, hbf⟩); ((first | (with_reducible have NBK := hide (nb_new o10)) | (with_reducible have NBK := hide (nb_newD o10)) | (have NBK := hide (nb_old (unhide BK) o10)) | skip)); ((first | ((with_reducible have hAl := is_alloc hbu); have BK := hide (pk_of (B := h2.heap.size) hAl zbf); clear hAl; have yy := pg_cells5 (unhide BK).2; have ff := fz_cells (unhide BK).2; obtain ⟨y0, y1, y2, y3, y4⟩ := yy; obtain ⟨f0, f1, f2, f3, f4⟩ := ff) | ((with_reducible have hAl := is_allocD hbu); have BK := hide (pk_of (B := h2.heap.size) hAl zbf); clear hAl; have yy := pg_cells5 (unhide BK).2; have ff := fz_cells (unhide BK).2; obtain ⟨y0, y1, y2, y3, y4⟩ := yy; obtain ⟨f0, f1, f2, f3, f4⟩ := ff) | (replace BK := hide ((unhide BK).step hbu); have yy := pg_cells5 (unhide BK).2; have ff := fz_cells (unhide BK).2; obtain ⟨y0, y1, y2, y3, y4⟩ := yy; obtain ⟨f0, f1, f2, f3, f4⟩ := ff) | skip)); (have O10 := hide o10; clear o10)))
          all_goals
            go_wp2_with fail
            go_meet
            case rel => first | (with_reducible exact left_box (unhide BK) (unhide NBK) (unhide O10) hle hbf) | exact left_last (unhide O10) hle hbf
        case rest =>
          clear CD CX AC CT
          obtain ⟨b_h, a_h, n_h, c_h, u_h, v_h, x_h, rfl, rfl, hX, hO, ⟨hbb, hnn⟩, hb⟩ := hcut
          have NB_h := hide hnn
          have LB_h := hbb
          have O_h := hide hO
          have K_h := hide hX
          have I_h := fun i (h : PgBlk a_h n_h c_h u_h v_h x_h i) => (unhide O_h).blk h
          have T_h := heap_lt (unhide K_h)
          have N_h := hide (unhide O_h).len
          have n32_h : n_h ≤ 32 ∧ v_h ≤ 12 := by have := unhide N_h; omega
          obtain ⟨w_h, hwr⟩ : ∃ w_h : World, w_h = wc := ⟨_, rfl⟩
          rw [← hwr] at hb O_h K_h I_h T_h ⊢
          replace K_a := hide ((hb.block w.heap.size (heap_lt (unhide K_a))).trans (unhide K_a))
          replace K_d := hide ((hb.block (w.heap.size + 1) (heap_lt (unhide K_d))).trans (unhide K_d))
          replace K_w := hide ((hb.block b_w (heap_lt (unhide K_w))).trans (unhide K_w))
          replace K_x := hide ((hb.block b_x (heap_lt (unhide K_x))).trans (unhide K_x))
          replace K_g := hide ((hb.block b_g (heap_lt (unhide K_g))).trans (unhide K_g))
          replace O_w := hide ((unhide O_w).below hb)
          replace O_g := hide ((unhide O_g).below hb)
          replace B := B.trans (hb.mono B.size)
          have zz_w_h := hb.size
          clear hb hwr hX hO hnn hbb
          obtain ⟨p_h0, p_h1, p_h2, p_h3, p_h4⟩ := pg_cells5 (unhide K_h)
          obtain ⟨p_w0, p_w1, p_w2, p_w3, p_w4⟩ := pg_cells5 (unhide K_w)
          go_wp2_with fail
          refine (eqPage_own cl ch cr _ _ a_h n_h c_h u_h v_h x_h a_w n_w c_w u_w v_w x_w ce cd w_h (unhide O_h) (unhide O_w) (by omega) (by omega)).mono ?_
          rintro e e3 ⟨rfl, hb⟩
          replace K_a := hide ((hb.block w.heap.size (heap_lt (unhide K_a))).trans (unhide K_a))
          replace K_d := hide ((hb.block (w.heap.size + 1) (heap_lt (unhide K_d))).trans (unhide K_d))
          replace K_w := hide ((hb.block b_w (heap_lt (unhide K_w))).trans (unhide K_w))
          replace K_x := hide ((hb.block b_x (heap_lt (unhide K_x))).trans (unhide K_x))
          replace K_g := hide ((hb.block b_g (heap_lt (unhide K_g))).trans (unhide K_g))
          replace K_h := hide ((hb.block b_h (heap_lt (unhide K_h))).trans (unhide K_h))
          replace O_w := hide ((unhide O_w).below hb)
          replace O_g := hide ((unhide O_g).below hb)
          replace O_h := hide ((unhide O_h).below hb)
          replace B := B.trans (hb.mono B.size)
          have zz_e3 := hb.size
          clear hb
          clear p_h0 p_h1 p_h2 p_h3 p_h4
          clear p_w0 p_w1 p_w2 p_w3 p_w4
          obtain ⟨p_g0, p_g1, p_g2, p_g3, p_g4⟩ := pg_cells5 (unhide K_g)
          go_wp2_with fail
          refine (heldPage_own cl ch cr _ 1 a_g n_g c_g u_g v_g x_g e3 (unhide O_g) (by omega) (by omega)).mono ?_
          rintro e h4 ⟨rfl, hb⟩
          replace K_a := hide ((hb.block w.heap.size (heap_lt (unhide K_a))).trans (unhide K_a))
          replace K_d := hide ((hb.block (w.heap.size + 1) (heap_lt (unhide K_d))).trans (unhide K_d))
          replace K_w := hide ((hb.block b_w (heap_lt (unhide K_w))).trans (unhide K_w))
          replace K_x := hide ((hb.block b_x (heap_lt (unhide K_x))).trans (unhide K_x))
          replace K_g := hide ((hb.block b_g (heap_lt (unhide K_g))).trans (unhide K_g))
          replace K_h := hide ((hb.block b_h (heap_lt (unhide K_h))).trans (unhide K_h))
          replace O_w := hide ((unhide O_w).below hb)
          replace O_g := hide ((unhide O_g).below hb)
          replace O_h := hide ((unhide O_h).below hb)
          replace B := B.trans (hb.mono B.size)
          have zz_h4 := hb.size
          clear hb
          clear p_g0 p_g1 p_g2 p_g3 p_g4
          go_wp2_with fail
          go_ret
          exact ⟨rfl, B⟩
end Go.Proofs.Ytkggpapmhopaeaa
