/-
  spec.l03Scan, spec.ScanImages.
-/
import Derived.Test.YtpmbpldjjnjafaaScS
import Derived.Test.YtpmbpldjjnjafaaImC
namespace Go.Proofs.Ytpmbpldjjnjafaa
open Go.RowKit

/-- What a scan gives: the images and the place behind them. -/
def ScRes (xs : List Int) (w : World) (e : Ending) (w' : World) : Prop :=
  ∃ v hs, e = .returned (.tuple #[v, .int .i64 ((scanB xs).2 : Int)]) ∧ IOwn w' w.heap.size v hs ∧ hs.map (·.X) = (scanB xs).1 ∧ Below w.heap.size w w'
theorem hdat_of_owns {w : World} {B : Nat} {h : ImH} (ho : Owns w B (.slice (some ⟨h.g, 0, none⟩) h.X.xs.length h.c) h.X.xs) : hDat w B h := by
  obtain ⟨a, c, e, hb⟩ := br_of_owns ho
  injection e with e1 e2 e3
  subst e1
  exact hb
set_option maxRecDepth 100000 in
set_option maxHeartbeats 8000000 in
theorem l03Scan_any (a : Option Addr) (n c : Nat) (xs : List Int) (w : World) (hR : Row w a n xs) (h8 : Bytes8 xs) (hn : n ≤ 65536) (hc : n ≤ c) (hc2 : c ≤ maxLen) :
    Calls Try.prog 19 #[.slice a n c] w fun e w' => ScRes xs w e w' := by
  have LN := hide hR.1
  have NX := hide (fun (p : Nat) (u : World) (hp : p ≤ n) (hu : Below w.heap.size w u) => l03Next_any a n c p xs u (row_grow' hR hu) h8 hp hn hc hc2)
  have H0 := hide (show IOwn (w.alloc (.cells #[] 48)) w.heap.size (.slice (some ⟨w.heap.size, 0, none⟩) 0 0) [] from IOwn.lit (Nat.le_refl _))
  have B0 := hide (show Below w.heap.size w (w.alloc (.cells #[] 48)) from (Below.refl _ _).alloc (Nat.le_refl _) _)
  clear hR h8
  go_enter Try.func19, Try.ntmps19
  go_wp2_with fail
  go_loopw [4, 5] (fun o' i wr => ∃ (p : Nat) (o : Value) (hs : List ImH), o' = o ∧ i = .int .i64 (p : Int) ∧ p ≤ n ∧ Hid (Steps xs (hs.map (·.X)) p) ∧ Hid (IOwn wr w.heap.size o hs) ∧ Hid (Below w.heap.size w wr)) (fun _ i _ => n - (intOf i).toNat)
  case atStart => exact ⟨0, _, [], rfl, rfl, Nat.zero_le _, Steps.start, unhide H0, unhide B0⟩
  case round =>
    clear H0 B0
    obtain ⟨p, o, hs, rfl, rfl, hp, hS, hI, hB⟩ := hrel
    go_wp2_with fail
    refine (unhide NX p wr hp (unhide hB)).mono ?_
    intro e w2 hv
    rcases hv with ⟨hnx, rfl, hb1⟩ | ⟨X, g, cp, hnx, rfl, ho, hb1⟩
    · have Z := hide (scan_end (unhide hS) hnx)
      have hb3 := hb1.trans (((Below.refl _ _).alloc (Nat.le_refl _) (.cells #[.int .i64 0, .bool false, .slice none 0 0] 48)).mono hb1.size)
      have HN := hide ((unhide hI).below hb3)
      have BN := hide ((unhide hB).trans (hb3.mono (unhide hB).size))
      clear hb1 hb3 hnx hI hB NX hS
      unfold iv
      go_wp2_with fail
      go_ret2
      exact ⟨u4, hs, (by rw [unhide Z]; rfl), unhide HN, (by rw [unhide Z]), unhide BN⟩
    · have hsm := next_some hnx
      have hpl : p + 9 + X.xs.length ≤ n := by have := hsm.2.2.2; rw [unhide LN] at this; exact this
      have hsl := (unhide hS).le
      rw [List.length_map] at hsl
      have ST := hide (show Steps xs ((hs ++ [(⟨X, g, cp⟩ : ImH)]).map (fun x : ImH => x.X)) (p + 9 + X.xs.length) by rw [List.map_append]; exact Steps.more (unhide hS) hnx)
      have fresh : ∀ i (hi : i < hs.length), hs[i].g ≠ g := fun i hi e => by
        have h1 := (hDat.lt ((unhide hI).dat i hi)).2
        have h2 := (ho.lt g rfl).1
        omega
      have fresh2 : u4.ownBlock ≠ some g := fun e => by
        have h1 := ((unhide hI).row.lt g e).2
        have h2 := (ho.lt g rfl).1
        omega
      have OB : ∀ k, u4.ownBlock = some k → k < w2.heap.size := fun k hk => Nat.lt_of_lt_of_le ((unhide hI).row.lt k hk).2 hb1.size
      have bA : Below w2.heap.size w2 (w2.alloc (.cells #[.int .i64 X.id, .bool X.gone, .slice (some ⟨g, 0, none⟩) X.xs.length cp] 48)) := (Below.refl _ _).alloc (Nat.le_refl _) _
      have hb3 := hb1.trans (bA.mono hb1.size)
      have HN := (unhide hI).below hb3
      have BN := (unhide hB).trans (hb3.mono (unhide hB).size)
      have DN : hDat (w2.alloc (.cells #[.int .i64 X.id, .bool X.gone, .slice (some ⟨g, 0, none⟩) X.xs.length cp] 48)) w.heap.size ⟨X, g, cp⟩ := by
        have h1 := (hdat_of_owns (h := ⟨X, g, cp⟩) ho).below bA
        exact ⟨h1.row, fun x hx => ⟨Nat.le_trans (unhide hB).size (h1.own x hx).1, (h1.own x hx).2⟩⟩
      have KX := heap_alloc_new w2 (.cells #[.int .i64 X.id, .bool X.gone, .slice (some ⟨g, 0, none⟩) X.xs.length cp] 48)
      have x0 : (w2.alloc (.cells #[.int .i64 X.id, .bool X.gone, .slice (some ⟨g, 0, none⟩) X.xs.length cp] 48)).cell? ⟨w2.heap.size, 0, none⟩ = some (.int .i64 X.id) := (heap_at KX 0).1
      have x1 : (w2.alloc (.cells #[.int .i64 X.id, .bool X.gone, .slice (some ⟨g, 0, none⟩) X.xs.length cp] 48)).cell? ⟨w2.heap.size, 1, none⟩ = some (.bool X.gone) := (heap_at KX 1).1
      have x2 : (w2.alloc (.cells #[.int .i64 X.id, .bool X.gone, .slice (some ⟨g, 0, none⟩) X.xs.length cp] 48)).cell? ⟨w2.heap.size, 2, none⟩ = some (.slice (some ⟨g, 0, none⟩) X.xs.length cp) := (heap_at KX 2).1
      have KXH := hide KX
      clear KX hb1 hb3 bA ho hI hB NX hS hsm hnx
      unfold iv
      go_upto_region 6 with fail
      generalize w2.alloc (.cells #[.int .i64 X.id, .bool X.gone, .slice (some ⟨g, 0, none⟩) X.xs.length cp] 48) = W3 at *
      generalize w2.heap.size = bx at *
      obtain ⟨v', w', hr', ho', hg', hv'⟩ := im_app (h := ⟨X, g, cp⟩) HN DN fresh fresh2 (by omega) BN.size
      have BF := hide (((BN.alloc BN.size _)).grown hg' (by have := BN.size; simp; omega) (fun k hk => (HN.row.lt k hk).1))
      have HF := hide ho'
      have hbx : bx < W3.heap.size := (Array.getElem?_eq_some_iff.1 (unhide KXH)).1
      have kx : w'.heap[bx]? = W3.heap[bx]? := (hg'.block bx (by simp; omega) (fun e => by have := OB bx e.symm; omega)).trans (Below.heap_alloc _ _ _ hbx)
      have x2' : w'.cell? ⟨bx, 2, none⟩ = some (.slice (some ⟨g, 0, none⟩) X.xs.length cp) := (heap_at (kx.trans (unhide KXH)) 2).1
      have wr1 : IntKind.i64.wrap (9 + (X.xs.length : Int)) = 9 + (X.xs.length : Int) := by rw [IntKind.wrap_i64]; omega
      have wr2 : IntKind.i64.wrap ((p : Int) + (9 + (X.xs.length : Int))) = ((p + 9 + X.xs.length : Nat) : Int) := by rw [IntKind.wrap_i64]; omega
      clear HN BN DN ho' hg' kx KXH OB fresh fresh2
      simp only at hr'
      go_wp2_with (at_builtin; refine sc_wpApp rfl (.tmp 19) (.tmp 21) 23 rfl _ _ _ w' rfl rfl hr' ?_)
      go_roundw
      case rel => exact ⟨p + 9 + X.xs.length, _, hs ++ [(⟨X, g, cp⟩ : ImH)], rfl, by first | rfl | go_num, by omega, ST, HF, BF⟩
      case measure => simp [intOf]; omega
def siC (xs : List Int) : Int := if xs.length ≤ 65536 then 0 else 2
def siL (xs : List Int) : List ImD := if xs.length ≤ 65536 then (scanB xs).1 else []
def siE (xs : List Int) : Nat := if xs.length ≤ 65536 then (scanB xs).2 else 0
/-- What ScanImages gives. -/
def SiRes (xs : List Int) (w : World) (e : Ending) (w' : World) : Prop :=
  ∃ v hs, e = .returned (.tuple #[v, .int .i64 (siE xs : Int), .int .i64 (siC xs)]) ∧ IOwn w' w.heap.size v hs ∧ hs.map (·.X) = siL xs ∧ Below w.heap.size w w'
theorem si_long {xs : List Int} {v : Value} {w w' : World} (h : ¬ xs.length ≤ 65536) (ho : IOwn w' w.heap.size v []) (hb : Below w.heap.size w w') : SiRes xs w (.returned (.tuple #[v, .int .i64 0, .int .i64 2])) w' :=
  ⟨v, [], by unfold siE siC; rw [if_neg h, if_neg h]; rfl, ho, by unfold siL; rw [if_neg h]; rfl, hb⟩
theorem si_some {xs : List Int} {v : Value} {hs : List ImH} {w w' : World} (h : xs.length ≤ 65536) (ho : IOwn w' w.heap.size v hs) (he : hs.map (·.X) = (scanB xs).1) (hb : Below w.heap.size w w') : SiRes xs w (.returned (.tuple #[v, .int .i64 ((scanB xs).2 : Int), .int .i64 0])) w' :=
  ⟨v, hs, by unfold siE siC; rw [if_pos h, if_pos h], ho, by unfold siL; rw [if_pos h]; exact he, hb⟩
set_option maxHeartbeats 2000000 in
theorem specScanImages_any (a : Option Addr) (n c : Nat) (xs : List Int) (w : World) (hR : Row w a n xs) (h8 : Bytes8 xs) (hn : n ≤ 1048576) (hc : n ≤ c) (hc2 : c ≤ maxLen) :
    Calls Try.prog 5 #[.slice a n c] w fun e w' => SiRes xs w e w' := by
  obtain rfl := hR.1
  by_cases h6 : xs.length ≤ 65536
  · have g6 : ¬ (65536 : Int) < (xs.length : Int) := by omega
    have C := hide (l03Scan_any a xs.length c xs w hR h8 h6 hc hc2)
    clear hR h8
    go_enter Try.func5, Try.ntmps5
    go_wp2_with fail
    refine (unhide C).mono ?_
    rintro e w1 ⟨v, hs, rfl, ho, he, hb⟩
    have Z := hide (si_some h6 ho he hb)
    clear C ho he hb
    go_wp2_with fail
    refine bodyPost_ret (v := .tuple #[v, .int .i64 ((scanB xs).2 : Int), .int .i64 0]) (by simp [results, Try.results5, go_sem, *]) rfl ?_
    exact unhide Z
  · have g6 : (65536 : Int) < (xs.length : Int) := by omega
    have Z := hide (si_long h6 (IOwn.lit (w := w) (Nat.le_refl w.heap.size)) ((Below.refl _ _).alloc (Nat.le_refl _) _))
    clear hR h8
    go_enter Try.func5, Try.ntmps5
    go_wp2_with fail
    refine bodyPost_ret (v := .tuple #[.slice (some ⟨w.heap.size, 0, none⟩) 0 0, .int .i64 0, .int .i64 2]) (by simp [results, Try.results5, go_sem, *]) rfl ?_
    exact unhide Z
end Go.Proofs.Ytpmbpldjjnjafaa
