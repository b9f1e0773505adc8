/-
  spec.l08Act: the act that words tell.
-/
import Derived.Test.YtmogcfiioajaeaaDoorAlB
import Derived.Deep.Cut
import Derived.Test.YtmogcfiioajaeaaDoorTakes
import Derived.Deep.RegionHeld
import Derived.Deep.RegionWith
namespace Go.Proofs.YtmogcfiioajaeaaDoor
open Go.RowKit

/-- What l08Act gives. -/
def AcRes (w : World) (ws : List ByteArray) (e : Ending) (w' : World) : Prop :=
  ∃ d a m c b, e = .returned (.tuple #[.agg (alC d (.slice a m c)), .bool b]) ∧ acW ws = (if b = true then some d else none) ∧ KeepOwns w' w.heap.size (.slice a m c) d.keep ∧ Below w.heap.size w w'
theorem keep_nil (w : World) (B : Nat) : KeepOwns w B (.slice none 0 0) [] := ⟨rfl, .inl ⟨rfl, rfl⟩⟩
theorem al_ne {x : ByteArray} {k : ByteArray} (h : ¬ x = k) : (x.toList == k.toList) = false := by rw [text_eq]; exact decide_eq_false h
theorem al_eq {x : ByteArray} {k : ByteArray} (h : x = k) : (x.toList == k.toList) = true := by rw [text_eq]; exact decide_eq_true h
theorem al_num {s : ByteArray} {w : World} (hs : s.size ≤ 65536) {v : Int} {b : Bool} (h : numV s.data.toList = if b = true then some v else none) (hb : b = false → v = 0) : Calls Tryd.prog 19 #[.string s] w fun e w' => e = .returned (.tuple #[.int .i64 v, .bool b]) ∧ w' = w := by
  refine (l00Number_any s w hs).mono ?_
  rintro e w' ⟨rfl, rfl⟩
  rw [h]
  cases b
  · rw [hb rfl]; exact ⟨rfl, rfl⟩
  · exact ⟨rfl, rfl⟩
theorem al_numForm (o : Option Int) : ∃ v b, o = (if b = true then some v else none) ∧ (b = false → v = 0) := by
  cases o with
  | none => exact ⟨0, false, rfl, fun _ => rfl⟩
  | some v => exact ⟨v, true, rfl, fun h => by cases h⟩
theorem syncB_l : syncB.toList = [115, 121, 110, 99] := by unfold syncB; simp
theorem cleanB_l : cleanB.toList = [99, 108, 101, 97, 110] := by unfold cleanB; simp
theorem crashB_l : crashB.toList = [99, 114, 97, 115, 104] := by unfold crashB; simp
theorem sv8_other {w : World} {b i : Nat} (h : i ≠ b) (v0 v1 v2 v3 v4 v5 v6 v7 : Value) : (sv8 w b v0 v1 v2 v3 v4 v5 v6 v7).heap[i]? = w.heap[i]? := by
  unfold sv8
  exact (Below.heap_setCell _ _ _ _ h).trans ((Below.heap_setCell _ _ _ _ h).trans ((Below.heap_setCell _ _ _ _ h).trans ((Below.heap_setCell _ _ _ _ h).trans ((Below.heap_setCell _ _ _ _ h).trans ((Below.heap_setCell _ _ _ _ h).trans ((Below.heap_setCell _ _ _ _ h).trans (Below.heap_setCell _ _ _ _ h)))))))
theorem keep_sv8 {w : World} {b : Nat} {v : Value} {fs : List Bool} (h : KeepOwns w (b + 1) v fs) (v0 v1 v2 v3 v4 v5 v6 v7 : Value) : KeepOwns (sv8 w b v0 v1 v2 v3 v4 v5 v6 v7) b v fs :=
  ownsRow_down (ownsRow_heap h (fun g hg => sv8_other (by have := (h.lt g hg).1; omega) _ _ _ _ _ _ _ _)) (by omega)
theorem keep_made (w : World) {b : Nat} (h : b < w.heap.size) : KeepOwns (w.alloc (.cells #[] 4)) (b + 1) (.slice (some ⟨w.heap.size, 0, none⟩) 0 0) [] :=
  ⟨rfl, .inr ⟨w.heap.size, 0, #[], rfl, h, heap_alloc_new _ _, Nat.le_refl _, Nat.zero_le _, rfl, rfl⟩⟩
theorem keep_set {w : World} {B b j : Nat} {v x : Value} {fs : List Bool} (h : KeepOwns w B v fs) (hb : v.ownBlock ≠ some b) : KeepOwns (w.setCell ⟨b, j, none⟩ x) B v fs :=
  ownsRow_heap h (fun g hg => Below.heap_setCell _ _ _ _ (fun e => hb (by rw [hg, e])))
theorem al_stepApp {P : Program} {ops : Array Oper} {o : Oper} {a : Act} {w : World} {K : Act → World → Prop} {Q : Exit → Act → World → Prop} {E : Prop}
    (hg : o.guard = none) (s x : Operand) (t : TypeId) (hop : o.op = Op.call { callee := Callee.builtin Builtin.append, args := #[s, x], argTypes := #[t, t] })
    (vs vx v' : Value) (w' : World) (hs : a.eval s = vs) (hx : a.eval x = vx) (hrun : (Builtin.append_ #[t, t] o.type #[vs, vx]).run P w = .ok v' w') (hK : K (a.put o.dst v') w') :
    if Region.wanted o (yielded ops a.tmps) = true then Oper.wp P o a w K Q else E := by
  have hw : Region.wanted o (yielded ops a.tmps) = true := by simp [Region.wanted, hg]
  rw [if_pos hw]
  unfold Oper.wp
  simp [execOp, hop, resolve, invoke, builtin, hs, hx, hrun, Result.andThen]
  exact hK
/-- Where a flag is laid behind those that an act's box bears. -/
theorem flag_app {base bx n c : Nat} {ka : Option Addr} {v : Int} {fs : List Bool} {Z : Obj} {w wr : World} (f : Bool) (hbx : base < bx) (KX : wr.heap[bx]? = some (.cells #[.int .i64 3, .int .i64 v, .int .i64 0, .int .i64 0, .string ⟨#[]⟩, .string ⟨#[]⟩, .string ⟨#[]⟩, .slice ka n c] 26 (0, 0)))
    (KZ : wr.heap[base]? = some Z) (KO : KeepOwns wr (base + 1) (.slice ka n c) fs) (hnb : (Value.slice ka n c).ownBlock ≠ some bx) (B : Below base w wr) (hz : fs.length ≤ 1000000) :
    ∃ ka' n' c' w1, (Builtin.append_ #[24, 24] 24 #[.slice ka n c, .slice (some ⟨wr.heap.size, 0, none⟩) 1 1]).run Tryd.prog (wr.drew.alloc (.cells #[.bool f] 4)) = .ok (.slice ka' n' c') w1 ∧
      w1.cell? ⟨bx, 7, none⟩ = some (.slice ka n c) ∧ w1.frozen? ⟨bx, 7, none⟩ = false ∧
      (w1.setCell ⟨bx, 7, none⟩ (.slice ka' n' c')).heap[bx]? = some (.cells #[.int .i64 3, .int .i64 v, .int .i64 0, .int .i64 0, .string ⟨#[]⟩, .string ⟨#[]⟩, .string ⟨#[]⟩, .slice ka' n' c'] 26 (0, 0)) ∧
      (w1.setCell ⟨bx, 7, none⟩ (.slice ka' n' c')).heap[base]? = some Z ∧ KeepOwns (w1.setCell ⟨bx, 7, none⟩ (.slice ka' n' c')) (base + 1) (.slice ka' n' c') (fs ++ [f]) ∧ (Value.slice ka' n' c').ownBlock ≠ some bx ∧ Below base w (w1.setCell ⟨bx, 7, none⟩ (.slice ka' n' c')) ∧ (∀ i, i < base → w1.heap[i]? = wr.heap[i]?) := by
  have hbs := al_lt KX
  obtain ⟨v', w1, hr, ho, hg, hv⟩ := bl_app (w := wr.drew) f KO hz (show base + 1 ≤ wr.heap.size by omega)
  obtain ⟨ka', c', rfl⟩ : ∃ ka' c', v' = .slice ka' (fs.length + 1) c' := by
    have h := ho
    unfold KeepOwns at h
    rw [List.length_append, List.length_singleton] at h
    rcases h.2 with ⟨e, h0⟩ | ⟨g, cap, cur, e, _⟩
    · omega
    · exact ⟨_, _, e⟩
  have G := Wr.of_grown (P := fun i => (Value.slice ka n c).ownBlock = some i) hg (fun i e => e)
  have bA : Below wr.drew.heap.size wr.drew (wr.drew.alloc (.cells #[.bool f] 4)) := (Below.refl _ _).alloc (Nat.le_refl _) _
  have KX1 := loc_wr ((bA.block bx hbs).trans KX) G hnb
  have hnz : (Value.slice ka n c).ownBlock ≠ some base := fun e => by have := (World.ownsRow.lt KO base e).1; omega
  have KZ1 := loc_wr ((bA.block base (by have := al_lt KZ; exact this)).trans KZ) G hnz
  have hn1 : (Value.slice ka' (fs.length + 1) c').ownBlock ≠ some bx := by
    rcases hv with e | e
    · rw [e]; exact hnb
    · rw [e]; intro h; have h := Option.some.inj h; have : wr.drew.heap.size = wr.heap.size := rfl; omega
  have hk : ∀ i, i < base → w1.heap[i]? = wr.heap[i]? := fun i hi => (G.block i (by have h := bA.size; have : wr.drew.heap.size = wr.heap.size := rfl; omega) (fun e => by have := (World.ownsRow.lt KO i e).1; omega)).trans (bA.block i (by have : wr.drew.heap.size = wr.heap.size := rfl; omega))
  have B1 : Below base w w1 := ((B.drew).trans ((bA.mono (show base ≤ wr.drew.heap.size from by have : wr.drew.heap.size = wr.heap.size := rfl; omega)).trans (G.below (fun i e => by have := (World.ownsRow.lt KO i e).1; omega) (by have h := bA.size; have : wr.drew.heap.size = wr.heap.size := rfl; omega))))
  exact ⟨ka', fs.length + 1, c', w1, hr, (heap_at KX1 7).1, (heap_at KX1 7).2, heap_set KX1 7 _, (Below.heap_setCell _ _ _ _ (by show base ≠ bx; omega)).trans KZ1, keep_set ho hn1, hn1, al_set B1 (by omega) 7 _, hk⟩
theorem u8_beq (x : UInt8) (k : Nat) (hk : k < 256) : ((x.toNat : Int) == (k : Int)) = (x == UInt8.ofNat k) := by
  rw [Bool.eq_iff_iff, beq_iff_eq, beq_iff_eq]
  constructor
  · intro h
    apply UInt8.toNat_inj.1
    rw [UInt8.toNat_ofNat_of_lt' hk]
    omega
  · intro h
    rw [h, UInt8.toNat_ofNat_of_lt' hk]
theorem take_len (z : ByteArray) (j : Nat) (h : z.size ≤ 65536) : (z.data.toList.take j).length ≤ 65536 := by
  have h2 : z.data.toList.length = z.size := Array.length_toList
  rw [List.length_take]
  omega
theorem al_stepLoad {P : Program} {ops : Array Oper} {o : Oper} {a : Act} {w : World} {K : Act → World → Prop} {Q : Exit → Act → World → Prop} {E : Prop}
    (hg : o.guard = none) (p : Operand) (t : TypeId) (hop : o.op = Op.load t p) (vp v : Value) (hp : a.eval p = vp) (hrun : (Instr.loadAt t vp).run P w = .ok v w) (hK : K (a.put o.dst v) w) :
    if Region.wanted o (yielded ops a.tmps) = true then Oper.wp P o a w K Q else E := by
  have hw : Region.wanted o (yielded ops a.tmps) = true := by simp [Region.wanted, hg]
  rw [if_pos hw]
  unfold Oper.wp
  simp [execOp, hop, hp, hrun, Result.andThen]
  exact hK
theorem run_loadK {w : World} {b j n c : Nat} {a : Option Addr} (h : w.cell? ⟨b, j, none⟩ = some (.slice a n c)) : (Instr.loadAt 24 (.pointer (some ⟨b, j, none⟩))).run Tryd.prog w = .ok (.slice a n c) w := by
  go_simp
theorem tx_keep {ws : List ByteArray} {d : AlD} (h : txW ws = some d) : d.keep = [] := by
  unfold txW at h
  split at h
  · split at h
    · cases h
    · unfold txR at h
      split at h
      · cases h
      · split at h
        · injection h with h
          rw [← h]
        · cases h
  · cases h
set_option maxRecDepth 100000 in
set_option maxHeartbeats 8000000 in
theorem l08Act_any (a : Option Addr) (n c : Nat) (L : List ByteArray) (w : World) (hr : StrRow w a n L) (hn : n ≤ 70000) (hc : n ≤ c) (h1 : 1 ≤ n) (hsz : ∀ x ∈ L, x.size ≤ 65536) :
    Calls Tryd.prog 10 #[.slice a n c] w fun e w' => AcRes w L e w' := by
  have LN := hide hr.1
  have SZ := hide hsz
  have R := hide hr
  obtain ⟨W, hW⟩ : ∃ W, W = w.alloc (.cells #[.int .i64 0, .int .i64 0, .int .i64 0, .int .i64 0, .string ⟨#[]⟩, .string ⟨#[]⟩, .string ⟨#[]⟩, .slice none 0 0] 26) := ⟨_, rfl⟩
  have bW : Below w.heap.size w W := by rw [hW]; exact (Below.refl _ _).alloc (Nat.le_refl _) _
  have kW : W.heap[w.heap.size]? = some (.cells #[.int .i64 0, .int .i64 0, .int .i64 0, .int .i64 0, .string ⟨#[]⟩, .string ⟨#[]⟩, .string ⟨#[]⟩, .slice none 0 0] 26 (0, 0)) := by rw [hW]; exact heap_alloc_new _ _
  have C := hide (l08Tx_any a n c L W (hr.below bW) hn hc h1 hsz)
  have BW := hide bW
  have KW := hide kW
  clear bW kW hr hsz
  go_enter Tryd.func10, Tryd.ntmps10
  go_upto_region 1 with fail
  rw [← hW]
  clear hW
  go_wp2_with fail
  refine (unhide C).mono ?_
  rintro e w2 ⟨rfl, hb2⟩
  replace KW := hide ((hb2.block _ (al_lt (unhide KW))).trans (unhide KW))
  replace BW := hide ((unhide BW).trans (hb2.mono (unhide BW).size))
  clear C hb2
  generalize htx : txW L = o at *
  have TX := hide htx
  clear htx
  cases o with
  | some d =>
    simp only [Option.getD_some, Option.isSome_some, alC]
    obtain ⟨d1, d2, d3, d4, d5, d6, d7, d8⟩ := d
    simp only
    have hd8 : d8 = [] := tx_keep (unhide TX)
    subst hd8
    have KW3 := hide (((Below.refl w2.heap.size w2).alloc (Nat.le_refl _) (.cells #[.int .i64 d1, .int .i64 d2, .int .i64 d3, .int .i64 d4, .string d5, .string d6, .string d7, .slice none 0 0] 26)).block _ (al_lt (unhide KW)) |>.trans (unhide KW))
    have BW3 := hide ((unhide BW).alloc (unhide BW).size (.cells #[.int .i64 d1, .int .i64 d2, .int .i64 d3, .int .i64 d4, .string d5, .string d6, .string d7, .slice none 0 0] 26))
    clear KW BW R LN SZ
    have run := run_storeAl (unhide KW3) ⟨d1, d2, d3, d4, d5, d6, d7, []⟩ none 0 0
    have kk := hide (sv8_heap (unhide KW3) (.int .i64 d1) (.int .i64 d2) (.int .i64 d3) (.int .i64 d4) (.string d5) (.string d6) (.string d7) (.slice none 0 0))
    have RES := hide (And.intro (unhide TX) (And.intro (sv8_below (unhide BW3) (Nat.le_refl w.heap.size) (.int .i64 d1) (.int .i64 d2) (.int .i64 d3) (.int .i64 d4) (.string d5) (.string d6) (.string d7) (.slice none 0 0)) (keep_nil w2 w.heap.size)))
    unfold sv8d at run
    simp only at run
    clear KW3 BW3 
    go_wp2_with (first | (refine al_wpStore rfl (.tmp 2) (.tmp 16) 26 rfl _ _ _ (by simp [Act.eval]) (by simp [Act.eval]) run ?_))
    generalize sv8 _ w.heap.size (.int .i64 d1) (.int .i64 d2) (.int .i64 d3) (.int .i64 d4) (.string d5) (.string d6) (.string d7) (.slice none 0 0) = u at *
    have y0 := (heap_at (unhide kk) 0).1
    have y1 := (heap_at (unhide kk) 1).1
    have y2 := (heap_at (unhide kk) 2).1
    have y3 := (heap_at (unhide kk) 3).1
    have y4 := (heap_at (unhide kk) 4).1
    have y5 := (heap_at (unhide kk) 5).1
    have y6 := (heap_at (unhide kk) 6).1
    have y7 := (heap_at (unhide kk) 7).1
    clear run kk
    go_wp2_with fail
    refine bodyPost_ret (v := .tuple #[.agg #[.int .i64 d1, .int .i64 d2, .int .i64 d3, .int .i64 d4, .string d5, .string d6, .string d7, .slice none 0 0], .bool true]) (by simp [results, Tryd.results10, go_sem, y0, y1, y2, y3, y4, y5, y6, y7]) rfl ?_
    exact ⟨⟨d1, d2, d3, d4, d5, d6, d7, []⟩, none, 0, 0, true, rfl, (ac_tx (unhide RES).1).trans (if_pos rfl).symm, keep_nil _ _, (unhide RES).2.1⟩
  | none =>
    simp only [Option.getD_none, Option.isSome_none, noAl, alC]
    have KW3 := hide (((Below.refl w2.heap.size w2).alloc (Nat.le_refl _) (.cells #[.int .i64 0, .int .i64 0, .int .i64 0, .int .i64 0, .string ⟨#[]⟩, .string ⟨#[]⟩, .string ⟨#[]⟩, .slice none 0 0] 26)).block _ (al_lt (unhide KW)) |>.trans (unhide KW))
    have BW3 := hide ((unhide BW).alloc (unhide BW).size (.cells #[.int .i64 0, .int .i64 0, .int .i64 0, .int .i64 0, .string ⟨#[]⟩, .string ⟨#[]⟩, .string ⟨#[]⟩, .slice none 0 0] 26))
    clear KW BW
    go_upto_region 4 with fail
    generalize w2.alloc (.cells #[.int .i64 0, .int .i64 0, .int .i64 0, .int .i64 0, .string ⟨#[]⟩, .string ⟨#[]⟩, .string ⟨#[]⟩, .slice none 0 0] 26) = w3 at *
    have R3 := hide ((unhide R).below (unhide BW3))
    have RW := R
    clear R
    have hl : 0 < L.length := by rw [unhide LN]; exact h1
    obtain ⟨b, off, ha, d0⟩ := (unhide R3).2 0 hl
    obtain ⟨b', off', ha', d0w⟩ := (unhide RW).2 0 hl
    subst ha
    have hbb := hide (show b < w.heap.size by injection ha' with e; injection e with e _ _; subst e; exact cell_lt d0w)
    clear ha' d0w
    rw [Nat.add_zero] at d0
    generalize hL0 : L[0] = x at *
    have HL0 := hide hL0
    clear hL0
    have hi0 : (0 : Int) < (n : Int) := by omega
    by_cases hx : x = syncB
    · have g1 : (x.toList == ([115, 121, 110, 99] : List UInt8)) = true := by rw [← syncB_l]; exact al_eq hx
      have g2 : (x.toList == ([99, 108, 101, 97, 110] : List UInt8)) = false := by rw [← cleanB_l]; exact al_ne (by rw [hx]; decide)
      have g3 : (x.toList == ([99, 114, 97, 115, 104] : List UInt8)) = false := by rw [← crashB_l]; exact al_ne (by rw [hx]; decide)
      by_cases hn1 : n = 1
      · subst hn1
        have run := run_storeAl (unhide KW3) (onA 2) none 0 0
        have kk := hide (sv8_heap (unhide KW3) (.int .i64 2) (.int .i64 0) (.int .i64 0) (.int .i64 0) (.string ⟨#[]⟩) (.string ⟨#[]⟩) (.string ⟨#[]⟩) (.slice none 0 0))
        have RES := hide (And.intro (ac_sync (unhide TX) (unhide LN) (unhide HL0) hx) (And.intro (sv8_below (unhide BW3) (Nat.le_refl w.heap.size) (.int .i64 2) (.int .i64 0) (.int .i64 0) (.int .i64 0) (.string ⟨#[]⟩) (.string ⟨#[]⟩) (.string ⟨#[]⟩) (.slice none 0 0)) (keep_nil w3 w.heap.size)))
        unfold sv8d onA at run
        simp only at run
        clear KW3 BW3 R3 LN SZ TX HL0 hx
        go_wp2_with (first | (refine al_wpStore rfl (.tmp 2) (.tmp 27) 26 rfl _ _ _ (by simp [Act.eval]) (by simp [Act.eval]) run ?_))
        generalize sv8 _ w.heap.size (.int .i64 2) (.int .i64 0) (.int .i64 0) (.int .i64 0) (.string ⟨#[]⟩) (.string ⟨#[]⟩) (.string ⟨#[]⟩) (.slice none 0 0) = u at *
        have y0 := (heap_at (unhide kk) 0).1
        have y1 := (heap_at (unhide kk) 1).1
        have y2 := (heap_at (unhide kk) 2).1
        have y3 := (heap_at (unhide kk) 3).1
        have y4 := (heap_at (unhide kk) 4).1
        have y5 := (heap_at (unhide kk) 5).1
        have y6 := (heap_at (unhide kk) 6).1
        have y7 := (heap_at (unhide kk) 7).1
        clear run kk
        go_wp2_with fail
        refine bodyPost_ret (v := .tuple #[.agg #[.int .i64 2, .int .i64 0, .int .i64 0, .int .i64 0, .string ⟨#[]⟩, .string ⟨#[]⟩, .string ⟨#[]⟩, .slice none 0 0], .bool true]) (by simp [results, Tryd.results10, go_sem, y0, y1, y2, y3, y4, y5, y6, y7]) rfl ?_
        exact ⟨onA 2, none, 0, 0, true, rfl, (unhide RES).1.trans (if_pos rfl).symm, keep_nil _ _, (unhide RES).2.1⟩
      · have hne : ((n : Int) == 1) = false := by rw [beq_eq_false_iff_ne]; omega
        have run := run_storeAl (unhide KW3) noAl none 0 0
        have kk := hide (sv8_heap (unhide KW3) (.int .i64 0) (.int .i64 0) (.int .i64 0) (.int .i64 0) (.string ⟨#[]⟩) (.string ⟨#[]⟩) (.string ⟨#[]⟩) (.slice none 0 0))
        have RES := hide (And.intro (ac_none (unhide TX) (unhide HL0) (fun h => absurd ((unhide LN).symm.trans h) hn1) (fun _ _ => by rw [hx]; decide)) (And.intro (sv8_below (unhide BW3) (Nat.le_refl w.heap.size) (.int .i64 0) (.int .i64 0) (.int .i64 0) (.int .i64 0) (.string ⟨#[]⟩) (.string ⟨#[]⟩) (.string ⟨#[]⟩) (.slice none 0 0)) (keep_nil w3 w.heap.size)))
        unfold sv8d noAl at run
        simp only at run
        clear KW3 BW3 R3 LN SZ TX HL0 hx
        go_wp2_with (first | (refine al_wpStore rfl (.tmp 2) (.tmp 102) 26 rfl _ _ _ (by simp [Act.eval]) (by simp [Act.eval]) run ?_))
        generalize sv8 _ w.heap.size (.int .i64 0) (.int .i64 0) (.int .i64 0) (.int .i64 0) (.string ⟨#[]⟩) (.string ⟨#[]⟩) (.string ⟨#[]⟩) (.slice none 0 0) = u at *
        have y0 := (heap_at (unhide kk) 0).1
        have y1 := (heap_at (unhide kk) 1).1
        have y2 := (heap_at (unhide kk) 2).1
        have y3 := (heap_at (unhide kk) 3).1
        have y4 := (heap_at (unhide kk) 4).1
        have y5 := (heap_at (unhide kk) 5).1
        have y6 := (heap_at (unhide kk) 6).1
        have y7 := (heap_at (unhide kk) 7).1
        clear run kk
        go_wp2_with fail
        refine bodyPost_ret (v := .tuple #[.agg #[.int .i64 0, .int .i64 0, .int .i64 0, .int .i64 0, .string ⟨#[]⟩, .string ⟨#[]⟩, .string ⟨#[]⟩, .slice none 0 0], .bool false]) (by simp [results, Tryd.results10, go_sem, y0, y1, y2, y3, y4, y5, y6, y7]) rfl ?_
        exact ⟨noAl, none, 0, 0, false, rfl, (unhide RES).1.trans (if_neg (by decide)).symm, keep_nil _ _, (unhide RES).2.1⟩
    have hsyncB := hide hx
    clear hx
    by_cases hx : x = cleanB
    · have g1 : (x.toList == ([115, 121, 110, 99] : List UInt8)) = false := by rw [← syncB_l]; exact al_ne (by rw [hx]; decide)
      have g2 : (x.toList == ([99, 108, 101, 97, 110] : List UInt8)) = true := by rw [← cleanB_l]; exact al_eq hx
      have g3 : (x.toList == ([99, 114, 97, 115, 104] : List UInt8)) = false := by rw [← crashB_l]; exact al_ne (by rw [hx]; decide)
      by_cases hn1 : n = 1
      · subst hn1
        have run := run_storeAl (unhide KW3) (onA 4) none 0 0
        have kk := hide (sv8_heap (unhide KW3) (.int .i64 4) (.int .i64 0) (.int .i64 0) (.int .i64 0) (.string ⟨#[]⟩) (.string ⟨#[]⟩) (.string ⟨#[]⟩) (.slice none 0 0))
        have RES := hide (And.intro (ac_clean (unhide TX) (unhide LN) (unhide HL0) hx) (And.intro (sv8_below (unhide BW3) (Nat.le_refl w.heap.size) (.int .i64 4) (.int .i64 0) (.int .i64 0) (.int .i64 0) (.string ⟨#[]⟩) (.string ⟨#[]⟩) (.string ⟨#[]⟩) (.slice none 0 0)) (keep_nil w3 w.heap.size)))
        unfold sv8d onA at run
        simp only at run
        clear KW3 BW3 R3 LN SZ TX HL0 hx
        go_wp2_with (first | (refine al_wpStore rfl (.tmp 2) (.tmp 38) 26 rfl _ _ _ (by simp [Act.eval]) (by simp [Act.eval]) run ?_))
        generalize sv8 _ w.heap.size (.int .i64 4) (.int .i64 0) (.int .i64 0) (.int .i64 0) (.string ⟨#[]⟩) (.string ⟨#[]⟩) (.string ⟨#[]⟩) (.slice none 0 0) = u at *
        have y0 := (heap_at (unhide kk) 0).1
        have y1 := (heap_at (unhide kk) 1).1
        have y2 := (heap_at (unhide kk) 2).1
        have y3 := (heap_at (unhide kk) 3).1
        have y4 := (heap_at (unhide kk) 4).1
        have y5 := (heap_at (unhide kk) 5).1
        have y6 := (heap_at (unhide kk) 6).1
        have y7 := (heap_at (unhide kk) 7).1
        clear run kk
        go_wp2_with fail
        refine bodyPost_ret (v := .tuple #[.agg #[.int .i64 4, .int .i64 0, .int .i64 0, .int .i64 0, .string ⟨#[]⟩, .string ⟨#[]⟩, .string ⟨#[]⟩, .slice none 0 0], .bool true]) (by simp [results, Tryd.results10, go_sem, y0, y1, y2, y3, y4, y5, y6, y7]) rfl ?_
        exact ⟨onA 4, none, 0, 0, true, rfl, (unhide RES).1.trans (if_pos rfl).symm, keep_nil _ _, (unhide RES).2.1⟩
      · have hne : ((n : Int) == 1) = false := by rw [beq_eq_false_iff_ne]; omega
        have run := run_storeAl (unhide KW3) noAl none 0 0
        have kk := hide (sv8_heap (unhide KW3) (.int .i64 0) (.int .i64 0) (.int .i64 0) (.int .i64 0) (.string ⟨#[]⟩) (.string ⟨#[]⟩) (.string ⟨#[]⟩) (.slice none 0 0))
        have RES := hide (And.intro (ac_none (unhide TX) (unhide HL0) (fun h => absurd ((unhide LN).symm.trans h) hn1) (fun _ _ => by rw [hx]; decide)) (And.intro (sv8_below (unhide BW3) (Nat.le_refl w.heap.size) (.int .i64 0) (.int .i64 0) (.int .i64 0) (.int .i64 0) (.string ⟨#[]⟩) (.string ⟨#[]⟩) (.string ⟨#[]⟩) (.slice none 0 0)) (keep_nil w3 w.heap.size)))
        unfold sv8d noAl at run
        simp only at run
        clear KW3 BW3 R3 LN SZ TX HL0 hx
        go_wp2_with (first | (refine al_wpStore rfl (.tmp 2) (.tmp 102) 26 rfl _ _ _ (by simp [Act.eval]) (by simp [Act.eval]) run ?_))
        generalize sv8 _ w.heap.size (.int .i64 0) (.int .i64 0) (.int .i64 0) (.int .i64 0) (.string ⟨#[]⟩) (.string ⟨#[]⟩) (.string ⟨#[]⟩) (.slice none 0 0) = u at *
        have y0 := (heap_at (unhide kk) 0).1
        have y1 := (heap_at (unhide kk) 1).1
        have y2 := (heap_at (unhide kk) 2).1
        have y3 := (heap_at (unhide kk) 3).1
        have y4 := (heap_at (unhide kk) 4).1
        have y5 := (heap_at (unhide kk) 5).1
        have y6 := (heap_at (unhide kk) 6).1
        have y7 := (heap_at (unhide kk) 7).1
        clear run kk
        go_wp2_with fail
        refine bodyPost_ret (v := .tuple #[.agg #[.int .i64 0, .int .i64 0, .int .i64 0, .int .i64 0, .string ⟨#[]⟩, .string ⟨#[]⟩, .string ⟨#[]⟩, .slice none 0 0], .bool false]) (by simp [results, Tryd.results10, go_sem, y0, y1, y2, y3, y4, y5, y6, y7]) rfl ?_
        exact ⟨noAl, none, 0, 0, false, rfl, (unhide RES).1.trans (if_neg (by decide)).symm, keep_nil _ _, (unhide RES).2.1⟩
    have hcleanB := hide hx
    clear hx
    by_cases hx : x = crashB
    · have g1 : (x.toList == ([115, 121, 110, 99] : List UInt8)) = false := by rw [← syncB_l]; exact al_ne (by rw [hx]; decide)
      have g2 : (x.toList == ([99, 108, 101, 97, 110] : List UInt8)) = false := by rw [← cleanB_l]; exact al_ne (by rw [hx]; decide)
      have g3 : (x.toList == ([99, 114, 97, 115, 104] : List UInt8)) = true := by rw [← crashB_l]; exact al_eq hx
      clear hsyncB hcleanB
      have IN := hide (alIn_any n 2 3 w3)
      have hl1 : ∀ h : 2 ≤ n, 1 < L.length := fun h => by rw [unhide LN]; omega
      by_cases hn2 : n = 2
      · subst hn2
        have IN2 := hide (show Calls Tryd.prog 18 #[.int .i64 2, .int .i64 2, .int .i64 3] w3 fun e w' => e = .returned (.bool true) ∧ w' = w3 from unhide IN)
        clear IN
        obtain ⟨b', off', ha, d1⟩ := (unhide R3).2 1 (hl1 (by decide))
        injection ha with ha
        injection ha with hb' ho' _
        subst hb' ho'
        generalize hL1 : L[1]'(hl1 (by decide)) = y at *
        have hy : y.size ≤ 65536 := by rw [← hL1]; exact unhide SZ _ (List.getElem_mem _)
        obtain ⟨v, ok, hv, hv0⟩ := al_numForm (numV y.data.toList)
        have NB := hide (al_num (w := w3) hy hv hv0)
        have AC := hide (ac_two (unhide TX) (unhide LN) (unhide HL0) hL1 hx)
        clear hL1 hy hl1 hx TX HL0 R3 LN SZ
        go_wp2_with (first | (go_at_call 18; refine (unhide IN2).mono ?_; rintro e w9 ⟨rfl, rfl⟩) | (go_at_call 19; refine (unhide NB).mono ?_; rintro e w9 ⟨rfl, rfl⟩))
        clear IN2 NB
        have KX5 := hide (show ((w9.alloc (.cells #[] 4)).alloc (.cells #[.int .i64 3, .int .i64 v, .int .i64 0, .int .i64 0, .string ⟨#[]⟩, .string ⟨#[]⟩, .string ⟨#[]⟩, .slice (some ⟨w9.heap.size, 0, none⟩) 0 0] 26)).heap[w9.heap.size + 1]? = some (.cells #[.int .i64 3, .int .i64 v, .int .i64 0, .int .i64 0, .string ⟨#[]⟩, .string ⟨#[]⟩, .string ⟨#[]⟩, .slice (some ⟨w9.heap.size, 0, none⟩) 0 0] 26 (0, 0)) from by rw [show w9.heap.size + 1 = (w9.alloc (.cells #[] 4)).heap.size by simp]; exact heap_alloc_new _ _)
        have KO5 := hide (show KeepOwns ((w9.alloc (.cells #[] 4)).alloc (.cells #[.int .i64 3, .int .i64 v, .int .i64 0, .int .i64 0, .string ⟨#[]⟩, .string ⟨#[]⟩, .string ⟨#[]⟩, .slice (some ⟨w9.heap.size, 0, none⟩) 0 0] 26)) (w.heap.size + 1) (.slice (some ⟨w9.heap.size, 0, none⟩) 0 0) [] from World.ownsRow.alloc (keep_made w9 (al_lt (unhide KW3))) _)
        have KW5 := hide (((((Below.refl w9.heap.size w9).alloc (Nat.le_refl _) (.cells #[] 4)).alloc (by simp) (.cells #[.int .i64 3, .int .i64 v, .int .i64 0, .int .i64 0, .string ⟨#[]⟩, .string ⟨#[]⟩, .string ⟨#[]⟩, .slice (some ⟨w9.heap.size, 0, none⟩) 0 0] 26)).block _ (al_lt (unhide KW3))).trans (unhide KW3))
        have BW5 := hide (((unhide BW3).alloc (unhide BW3).size (.cells #[] 4)).alloc (by have := (unhide BW3).size; simp; omega) (.cells #[.int .i64 3, .int .i64 v, .int .i64 0, .int .i64 0, .string ⟨#[]⟩, .string ⟨#[]⟩, .string ⟨#[]⟩, .slice (some ⟨w9.heap.size, 0, none⟩) 0 0] 26))
        have hbx := hide (show w.heap.size < w9.heap.size + 1 from by have := al_lt (unhide KW3); omega)
        have hnb := hide (show (Value.slice (some ⟨w9.heap.size, 0, none⟩) 0 0).ownBlock ≠ some (w9.heap.size + 1) from by show (some w9.heap.size : Option Nat) ≠ some (w9.heap.size + 1); simp)
        clear KW3 BW3 d0 d1 g1 g2 g3 hl hn hc h1 hi0
        generalize (w9.alloc (.cells #[] 4)).alloc (.cells #[.int .i64 3, .int .i64 v, .int .i64 0, .int .i64 0, .string ⟨#[]⟩, .string ⟨#[]⟩, .string ⟨#[]⟩, .slice (some ⟨w9.heap.size, 0, none⟩) 0 0] 26) = w5 at *
        generalize w9.heap.size + 1 = bx at *
        generalize (some (⟨w9.heap.size, 0, none⟩ : Addr)) = ka at *
        go_loopw [7, 9] (fun ov iv wr => ov = .bool ok ∧ iv = .int .i64 0 ∧ wr = w5) (fun _ _ _ => 0)
        case atStart => exact ⟨rfl, rfl, rfl⟩
        case round =>
          obtain ⟨rfl, rfl, rfl⟩ := hrel
          have x0 := (heap_at (unhide KX5) 0).1
          have x1 := (heap_at (unhide KX5) 1).1
          have x2 := (heap_at (unhide KX5) 2).1
          have x3 := (heap_at (unhide KX5) 3).1
          have x4 := (heap_at (unhide KX5) 4).1
          have x5 := (heap_at (unhide KX5) 5).1
          have x6 := (heap_at (unhide KX5) 6).1
          have x7 := (heap_at (unhide KX5) 7).1
          have DD := hide (And.intro hv hv0)
          clear hv hv0
          have run := run_storeAl (unhide KW5) (crA v []) ka 0 0
          have kk := hide (sv8_heap (unhide KW5) (.int .i64 3) (.int .i64 v) (.int .i64 0) (.int .i64 0) (.string ⟨#[]⟩) (.string ⟨#[]⟩) (.string ⟨#[]⟩) (.slice ka 0 0))
          have RES := hide (And.intro (show acW L = (if ok = true then some (crA v []) else none) from (unhide AC).trans (by rw [(unhide DD).1]; cases ok <;> rfl)) (And.intro (sv8_below (unhide BW5) (Nat.le_refl w.heap.size) (.int .i64 3) (.int .i64 v) (.int .i64 0) (.int .i64 0) (.string ⟨#[]⟩) (.string ⟨#[]⟩) (.string ⟨#[]⟩) (.slice ka 0 0)) (keep_sv8 (unhide KO5) (.int .i64 3) (.int .i64 v) (.int .i64 0) (.int .i64 0) (.string ⟨#[]⟩) (.string ⟨#[]⟩) (.string ⟨#[]⟩) (.slice ka 0 0))))
          unfold sv8d crA at run
          simp only at run
          clear KW5 BW5 AC DD KX5
          go_wp2_with (first | (refine al_wpStore rfl (.tmp 2) (.tmp 100) 26 rfl _ _ _ (by simp [Act.eval]) (by simp [Act.eval]) run ?_))
          generalize sv8 _ w.heap.size (.int .i64 3) (.int .i64 v) (.int .i64 0) (.int .i64 0) (.string ⟨#[]⟩) (.string ⟨#[]⟩) (.string ⟨#[]⟩) (.slice ka 0 0) = u at *
          have y0 := (heap_at (unhide kk) 0).1
          have y1 := (heap_at (unhide kk) 1).1
          have y2 := (heap_at (unhide kk) 2).1
          have y3 := (heap_at (unhide kk) 3).1
          have y4 := (heap_at (unhide kk) 4).1
          have y5 := (heap_at (unhide kk) 5).1
          have y6 := (heap_at (unhide kk) 6).1
          have y7 := (heap_at (unhide kk) 7).1
          clear run kk
          go_wp2_with fail
          refine bodyPost_ret (v := .tuple #[.agg #[.int .i64 3, .int .i64 v, .int .i64 0, .int .i64 0, .string ⟨#[]⟩, .string ⟨#[]⟩, .string ⟨#[]⟩, .slice ka 0 0], .bool ok]) (by simp [results, Tryd.results10, go_sem, y0, y1, y2, y3, y4, y5, y6, y7]) rfl ?_
          exact ⟨crA v [], ka, 0, 0, ok, rfl, (unhide RES).1, (unhide RES).2.2, (unhide RES).2.1⟩
      · by_cases hn3 : n = 3
        · clear hn2
          subst hn3
          have IN2 := hide (show Calls Tryd.prog 18 #[.int .i64 3, .int .i64 2, .int .i64 3] w3 fun e w' => e = .returned (.bool true) ∧ w' = w3 from unhide IN)
          clear IN
          obtain ⟨b', off', ha, d1⟩ := (unhide R3).2 1 (hl1 (by decide))
          injection ha with ha
          injection ha with hb' ho' _
          subst hb' ho'
          have hl2 : 2 < L.length := by rw [unhide LN]; decide
          obtain ⟨b', off', ha, d2⟩ := (unhide RW).2 2 hl2
          injection ha with ha
          injection ha with hb' ho' _
          subst hb' ho'
          generalize hL1 : L[1]'(hl1 (by decide)) = y at *
          generalize hL2 : L[2] = z at *
          have hy : y.size ≤ 65536 := by rw [← hL1]; exact unhide SZ _ (List.getElem_mem _)
          have hz : z.size ≤ 65536 := by rw [← hL2]; exact unhide SZ _ (List.getElem_mem _)
          obtain ⟨v, ok, hv, hv0⟩ := al_numForm (numV y.data.toList)
          have NB := hide (al_num (w := w3) hy hv hv0)
          have AC := hide (ac_three (unhide TX) (unhide LN) (unhide HL0) hL1 hL2 hx)
          have D2 := hide d2
          have HZ := hide hz
          have DD := hide (And.intro hv hv0)
          clear hL1 hL2 hy hz hl1 hl2 hx TX HL0 R3 RW LN SZ d2 hv hv0
          go_wp2_with (first | (go_at_call 18; refine (unhide IN2).mono ?_; rintro e w9 ⟨rfl, rfl⟩) | (go_at_call 19; refine (unhide NB).mono ?_; rintro e w9 ⟨rfl, rfl⟩))
          clear IN2 NB
          have KX5 := hide (show ((w9.alloc (.cells #[] 4)).alloc (.cells #[.int .i64 3, .int .i64 v, .int .i64 0, .int .i64 0, .string ⟨#[]⟩, .string ⟨#[]⟩, .string ⟨#[]⟩, .slice (some ⟨w9.heap.size, 0, none⟩) 0 0] 26)).heap[w9.heap.size + 1]? = some (.cells #[.int .i64 3, .int .i64 v, .int .i64 0, .int .i64 0, .string ⟨#[]⟩, .string ⟨#[]⟩, .string ⟨#[]⟩, .slice (some ⟨w9.heap.size, 0, none⟩) 0 0] 26 (0, 0)) from by rw [show w9.heap.size + 1 = (w9.alloc (.cells #[] 4)).heap.size by simp]; exact heap_alloc_new _ _)
          have KO5 := hide (show KeepOwns ((w9.alloc (.cells #[] 4)).alloc (.cells #[.int .i64 3, .int .i64 v, .int .i64 0, .int .i64 0, .string ⟨#[]⟩, .string ⟨#[]⟩, .string ⟨#[]⟩, .slice (some ⟨w9.heap.size, 0, none⟩) 0 0] 26)) (w.heap.size + 1) (.slice (some ⟨w9.heap.size, 0, none⟩) 0 0) [] from World.ownsRow.alloc (keep_made w9 (al_lt (unhide KW3))) _)
          have KW5 := hide (((((Below.refl w9.heap.size w9).alloc (Nat.le_refl _) (.cells #[] 4)).alloc (by simp) (.cells #[.int .i64 3, .int .i64 v, .int .i64 0, .int .i64 0, .string ⟨#[]⟩, .string ⟨#[]⟩, .string ⟨#[]⟩, .slice (some ⟨w9.heap.size, 0, none⟩) 0 0] 26)).block _ (al_lt (unhide KW3))).trans (unhide KW3))
          have BW5 := hide (((unhide BW3).alloc (unhide BW3).size (.cells #[] 4)).alloc (by have := (unhide BW3).size; simp; omega) (.cells #[.int .i64 3, .int .i64 v, .int .i64 0, .int .i64 0, .string ⟨#[]⟩, .string ⟨#[]⟩, .string ⟨#[]⟩, .slice (some ⟨w9.heap.size, 0, none⟩) 0 0] 26))
          have hbx := hide (show w.heap.size < w9.heap.size + 1 from by have := al_lt (unhide KW3); omega)
          have hnb := hide (show (Value.slice (some ⟨w9.heap.size, 0, none⟩) 0 0).ownBlock ≠ some (w9.heap.size + 1) from by show (some w9.heap.size : Option Nat) ≠ some (w9.heap.size + 1); simp)
          clear KW3 BW3 d0 d1 g1 g2 g3 hl hn hc h1 hi0
          generalize (w9.alloc (.cells #[] 4)).alloc (.cells #[.int .i64 3, .int .i64 v, .int .i64 0, .int .i64 0, .string ⟨#[]⟩, .string ⟨#[]⟩, .string ⟨#[]⟩, .slice (some ⟨w9.heap.size, 0, none⟩) 0 0] 26) = w5 at *
          generalize w9.heap.size + 1 = bx at *
          generalize (some (⟨w9.heap.size, 0, none⟩ : Addr)) = ka at *
          go_loopw [7, 9] (fun ov iv wr => ∃ (j : Nat) (ka : Option Addr) (kn kc : Nat), j ≤ z.size ∧ ov = .bool (ok && okL (z.data.toList.take j)) ∧ iv = .int .i64 (j : Nat) ∧ Hid (wr.heap[bx]? = some (.cells #[.int .i64 3, .int .i64 v, .int .i64 0, .int .i64 0, .string ⟨#[]⟩, .string ⟨#[]⟩, .string ⟨#[]⟩, .slice ka kn kc] 26 (0, 0))) ∧ Hid (wr.heap[w.heap.size]? = some (.cells #[.int .i64 0, .int .i64 0, .int .i64 0, .int .i64 0, .string ⟨#[]⟩, .string ⟨#[]⟩, .string ⟨#[]⟩, .slice none 0 0] 26 (0, 0))) ∧ Hid (KeepOwns wr (w.heap.size + 1) (.slice ka kn kc) (flL (z.data.toList.take j))) ∧ Hid ((Value.slice ka kn kc).ownBlock ≠ some bx) ∧ Hid (Below w.heap.size w wr)) (fun _ iv _ => z.size - (intOf iv).toNat)
          case atStart => exact ⟨0, ka, 0, 0, Nat.zero_le _, by simp [okL], rfl, KX5, KW5, KO5, hnb, BW5⟩
          case round =>
            clear KX5 KW5 KO5 hnb BW5
            obtain ⟨j, ka, kn, kc, hj, rfl, rfl, KX, KZ, KO, NO, KB⟩ := hrel
            have cz := ((unhide KB).cell (p := ⟨b, off + 2, none⟩) (unhide hbb)).trans (unhide D2)
            have TL := hide (take_len z j (unhide HZ))
            by_cases hlt : j < z.size
            · have TS := hide (take_snoc z j hlt)
              have hlt2 : (j : Int) < (z.size : Int) := by omega
              generalize hq : (ok && okL (z.data.toList.take j)) = q at *
              have HQ := hide hq
              clear hq
              cases q
              · by_cases h48 : z[j] = 48
                · have g48 : ((z[j].toNat : Int) == 48) = true := by rw [h48]; rfl
                  have g49 : ((z[j].toNat : Int) == 49) = false := by rw [show (49 : Int) = ((49 : Nat) : Int) from rfl, u8_beq _ 49 (by decide)]; exact beq_eq_false_iff_ne.2 (by rw [h48]; decide)
                  obtain ⟨ka2, kn2, kc2, w1, hrun, m7, mf7, X1, Z1, O1, N1, B1, -⟩ := flag_app false (unhide hbx) (unhide KX) (unhide KZ) (unhide KO) (unhide NO) (unhide KB) (by rw [flL_len]; have := unhide TL; omega)
                  have hz49 : (z[j] == 49) = false := beq_eq_false_iff_ne.2 (by rw [h48]; decide)
                  have hz48 : (z[j] == 48 || z[j] == 49) = true := by rw [h48]; rfl
                  have NX := hide (And.intro (show (ok && okL (z.data.toList.take (j + 1))) = false by rw [unhide TS, okL_snoc, hz48, ← Bool.and_assoc, unhide HQ]; rfl) (show flL (z.data.toList.take (j + 1)) = flL (z.data.toList.take j) ++ [false] by rw [unhide TS, flL_snoc, hz49]))
                  have RR := hide (And.intro X1 (And.intro Z1 (And.intro O1 (And.intro N1 B1))))
                  have l7 := (heap_at (unhide KX) 7).1
                  have SK := hide (show ∀ u : World, Below wr.heap.size wr u → u.cell? ⟨b, off + 2, none⟩ = some (.string z) from fun u hu => (hu.cell (p := ⟨b, off + 2, none⟩) (cell_lt cz)).trans cz)
                  have l7A : (wr.drew.alloc (.cells #[.bool false] 4)).cell? ⟨bx, 7, none⟩ = some (.slice ka kn kc) := ((Below.refl wr.drew.heap.size wr.drew).alloc (Nat.le_refl _) (.cells #[.bool false] 4)).cell (p := ⟨bx, 7, none⟩) (show bx < wr.drew.heap.size from al_lt (unhide KX)) |>.trans l7
                  have SKA := hide (show (wr.drew.alloc (.cells #[.bool false] 4)).cell? ⟨b, off + 2, none⟩ = some (.string z) from unhide SK _ (((Below.refl wr.heap.size wr).drew).alloc (show wr.heap.size ≤ wr.drew.heap.size from Nat.le_refl _) _))
                  have SK1 := hide (show w1.cell? ⟨b, off + 2, none⟩ = some (.string z) from (World.cell?_setCell_other _ _ _ _ (by intro h; simp only [Addr.mk.injEq] at h; have := unhide hbb; have := unhide hbx; omega)).symm.trans ((B1.cell (p := ⟨b, off + 2, none⟩) (unhide hbb)).trans (unhide D2)))
                  have SK2 := hide (show (w1.setCell ⟨bx, 7, none⟩ (.slice ka2 kn2 kc2)).cell? ⟨b, off + 2, none⟩ = some (.string z) from (B1.cell (p := ⟨b, off + 2, none⟩) (unhide hbb)).trans (unhide D2))
                  clear h48 hz48 hz49 X1 Z1 O1 N1 B1 KX KZ KO NO KB TS HQ TL
                  go_upto_region 15 with fail
                  refine wp_region_held_drew (S := (fun u : World => u.cell? ⟨b, off + 2, none⟩ = some (.string z))) (by kernel_rfl) (unhide SK _ (Below.refl _ _).drew) (fun hHeld => ?_)
                  refine anyH_take 0 89 (v := ?v1) rfl rfl (by kernel_rfl) (by kernel_rfl) (by kernel_rfl) (fun _ _ _ h => h) (by rfl) ?h1 hHeld ?r1
                  case h1 => (intro w hSw; (try dsimp only at hSw); go_simp; try (with_reducible rfl))
                  simp only [Act.put, List.setIfInBounds_toArray, List.set_cons_zero, List.set_cons_succ]
                  refine anyH_take 2 91 (v := ?v2) rfl rfl (by kernel_rfl) (by kernel_rfl) (by kernel_rfl) (fun _ _ _ h => h) (by rfl) ?h2 hHeld ?r2
                  case h2 => (intro w hSw; (try dsimp only at hSw); go_simp; try (with_reducible rfl))
                  simp only [Act.put, List.setIfInBounds_toArray, List.set_cons_zero, List.set_cons_succ]
                  refine anyH_take 3 92 (v := ?v3) rfl rfl (by kernel_rfl) (by kernel_rfl) (by kernel_rfl) (fun _ _ _ h => h) (by rfl) ?h3 hHeld ?r3
                  case h3 => (intro w hSw; (try dsimp only at hSw); go_simp; try (with_reducible rfl))
                  simp only [Act.put, List.setIfInBounds_toArray, List.set_cons_zero, List.set_cons_succ]
                  refine anyH_take 4 93 (v := ?v4) rfl rfl (by kernel_rfl) (by kernel_rfl) (by kernel_rfl) (fun _ _ _ h => h) (by rfl) ?h4 hHeld ?r4
                  case h4 => (intro w hSw; (try dsimp only at hSw); go_simp; try (with_reducible rfl))
                  simp only [Act.put, List.setIfInBounds_toArray, List.set_cons_zero, List.set_cons_succ]
                  refine anyH_take 5 94 (v := ?v5) rfl rfl (by kernel_rfl) (by kernel_rfl) (by kernel_rfl) (fun _ _ _ h => h) (by rfl) ?h5 hHeld ?r5
                  case h5 => (intro w hSw; (try dsimp only at hSw); go_simp; try (with_reducible rfl))
                  simp only [Act.put, List.setIfInBounds_toArray, List.set_cons_zero, List.set_cons_succ]
                  refine anyH_take 6 95 (v := ?v6) rfl rfl (by kernel_rfl) (by kernel_rfl) (by kernel_rfl) (fun _ _ _ h => h) (by rfl) ?h6 hHeld ?r6
                  case h6 => (intro w hSw; (try dsimp only at hSw); go_simp; try (with_reducible rfl))
                  simp only [Act.put, List.setIfInBounds_toArray, List.set_cons_zero, List.set_cons_succ]
                  refine anyH_take 7 96 (v := ?v7) rfl rfl (by kernel_rfl) (by kernel_rfl) (by kernel_rfl) (fun _ _ _ h => h) (by rfl) ?h7 hHeld ?r7
                  case h7 => (intro w hSw; (try dsimp only at hSw); go_simp; try (with_reducible rfl))
                  simp only [Act.put, List.setIfInBounds_toArray, List.set_cons_zero, List.set_cons_succ]
                  refine wpAnyH_ready (rs := [1, 8]) (by kernel_rfl) (by simp) ?_
                  refine AllReadyH.cons rfl (fun K hK => ?_) (AllReadyH.cons rfl (fun K hK => ?_) AllReadyH.nil)
                  · refine al_stepLoad rfl (.tmp 89) 24 rfl _ _ (by first | rfl | (simp [Act.eval]; done) | (simp [Act.eval, Act.put]; done)) (run_loadK l7) ?_
                    refine hK.out _ _ (unhide SK _ (Below.refl _ _).drew) (fun hHeld => ?_)
                    clear hK K
                    (try simp only [Act.put, List.setIfInBounds_toArray])
                    refine wpAnyH_ready (rs := [8]) (by kernel_rfl) (by simp) ?_
                    refine AllReadyH.cons rfl (fun K hK => ?_) AllReadyH.nil
                    go_simp
                    refine hK.out _ _ (unhide SKA) (fun hHeld => ?_)
                    clear hK K
                    (try simp only [Act.put, List.setIfInBounds_toArray, List.set_cons_zero, List.set_cons_succ])
                    refine wpAnyH_ready (rs := [9]) (by kernel_rfl) (by simp) ?_
                    refine AllReadyH.cons rfl (fun K hK => ?_) AllReadyH.nil
                    refine al_stepApp rfl (.tmp 90) (.tmp 97) 24 rfl _ _ _ w1 (by first | rfl | (simp [Act.eval]; done) | (simp [Act.eval, Act.put]; done)) (by first | rfl | (simp [Act.eval]; done) | (simp [Act.eval, Act.put]; done)) hrun ?_
                    refine hK.out _ _ (unhide SK1) (fun hHeld => ?_)
                    clear hK K
                    (try simp only [Act.put, List.setIfInBounds_toArray])
                    refine anyH_take 10 99 (v := ?v8) rfl rfl (by kernel_rfl) (by kernel_rfl) (by kernel_rfl) (fun _ _ _ h => h) (by rfl) ?h8 hHeld ?r8
                    case h8 => (intro w hSw; (try dsimp only at hSw); go_simp; try (with_reducible rfl))
                    simp only [Act.put]
                    refine wpAnyH_ready (rs := [11]) (by kernel_rfl) (by simp) ?_
                    refine AllReadyH.cons rfl (fun K hK => ?_) AllReadyH.nil
                    go_simp
                    refine hK.out _ _ (unhide SK2) (fun hHeld => ?_)
                    clear hK K
                    (try simp only [Act.put, List.setIfInBounds_toArray, List.set_cons_zero, List.set_cons_succ])
                    refine wpAnyH_done (by kernel_rfl) ?_ _
                    clear hHeld
                    have hzz := unhide HZ
                    go_wp2_with fail
                    go_roundw
                    case rel => exact ⟨j + 1, ka2, kn2, kc2, by omega, by rw [(unhide NX).1], by go_num, hide (unhide RR).1, hide (unhide RR).2.1, hide (by rw [(unhide NX).2]; exact (unhide RR).2.2.1), hide (unhide RR).2.2.2.1, hide (unhide RR).2.2.2.2⟩
                    case measure => simp [intOf]; omega
                  · go_simp
                    refine hK.out _ _ (unhide SKA) (fun hHeld => ?_)
                    clear hK K
                    (try simp only [Act.put, List.setIfInBounds_toArray, List.set_cons_zero, List.set_cons_succ])
                    refine wpAnyH_ready (rs := [1]) (by kernel_rfl) (by simp) ?_
                    refine AllReadyH.cons rfl (fun K hK => ?_) AllReadyH.nil
                    refine al_stepLoad rfl (.tmp 89) 24 rfl _ _ (by first | rfl | (simp [Act.eval]; done) | (simp [Act.eval, Act.put]; done)) (run_loadK l7A) ?_
                    refine hK.out _ _ (unhide SKA) (fun hHeld => ?_)
                    clear hK K
                    (try simp only [Act.put, List.setIfInBounds_toArray])
                    refine wpAnyH_ready (rs := [9]) (by kernel_rfl) (by simp) ?_
                    refine AllReadyH.cons rfl (fun K hK => ?_) AllReadyH.nil
                    refine al_stepApp rfl (.tmp 90) (.tmp 97) 24 rfl _ _ _ w1 (by first | rfl | (simp [Act.eval]; done) | (simp [Act.eval, Act.put]; done)) (by first | rfl | (simp [Act.eval]; done) | (simp [Act.eval, Act.put]; done)) hrun ?_
                    refine hK.out _ _ (unhide SK1) (fun hHeld => ?_)
                    clear hK K
                    (try simp only [Act.put])
                    refine anyH_take 10 99 (v := ?v9) rfl rfl (by kernel_rfl) (by kernel_rfl) (by kernel_rfl) (fun _ _ _ h => h) (by rfl) ?h9 hHeld ?r9
                    case h9 => (intro w hSw; (try dsimp only at hSw); go_simp; try (with_reducible rfl))
                    simp only [Act.put]
                    refine wpAnyH_ready (rs := [11]) (by kernel_rfl) (by simp) ?_
                    refine AllReadyH.cons rfl (fun K hK => ?_) AllReadyH.nil
                    go_simp
                    refine hK.out _ _ (unhide SK2) (fun hHeld => ?_)
                    clear hK K
                    (try simp only [Act.put, List.setIfInBounds_toArray, List.set_cons_zero, List.set_cons_succ])
                    refine wpAnyH_done (by kernel_rfl) ?_ _
                    clear hHeld
                    have hzz := unhide HZ
                    go_wp2_with fail
                    go_roundw
                    case rel => exact ⟨j + 1, ka2, kn2, kc2, by omega, by rw [(unhide NX).1], by go_num, hide (unhide RR).1, hide (unhide RR).2.1, hide (by rw [(unhide NX).2]; exact (unhide RR).2.2.1), hide (unhide RR).2.2.2.1, hide (unhide RR).2.2.2.2⟩
                    case measure => simp [intOf]; omega
                · by_cases h49 : z[j] = 49
                  · have g48 : ((z[j].toNat : Int) == 48) = false := by rw [show (48 : Int) = ((48 : Nat) : Int) from rfl, u8_beq _ 48 (by decide)]; exact beq_eq_false_iff_ne.2 (by rw [h49]; decide)
                    have g49 : ((z[j].toNat : Int) == 49) = true := by rw [h49]; rfl
                    obtain ⟨ka2, kn2, kc2, w1, hrun, m7, mf7, X1, Z1, O1, N1, B1, -⟩ := flag_app true (unhide hbx) (unhide KX) (unhide KZ) (unhide KO) (unhide NO) (unhide KB) (by rw [flL_len]; have := unhide TL; omega)
                    have hz49 : (z[j] == 49) = true := by rw [h49]; rfl
                    have hz48 : (z[j] == 48 || z[j] == 49) = true := by rw [h49]; rfl
                    have NX := hide (And.intro (show (ok && okL (z.data.toList.take (j + 1))) = false by rw [unhide TS, okL_snoc, hz48, ← Bool.and_assoc, unhide HQ]; rfl) (show flL (z.data.toList.take (j + 1)) = flL (z.data.toList.take j) ++ [true] by rw [unhide TS, flL_snoc, hz49]))
                    have RR := hide (And.intro X1 (And.intro Z1 (And.intro O1 (And.intro N1 B1))))
                    have l7 := (heap_at (unhide KX) 7).1
                    have SK := hide (show ∀ u : World, Below wr.heap.size wr u → u.cell? ⟨b, off + 2, none⟩ = some (.string z) from fun u hu => (hu.cell (p := ⟨b, off + 2, none⟩) (cell_lt cz)).trans cz)
                    have l7A : (wr.drew.alloc (.cells #[.bool true] 4)).cell? ⟨bx, 7, none⟩ = some (.slice ka kn kc) := ((Below.refl wr.drew.heap.size wr.drew).alloc (Nat.le_refl _) (.cells #[.bool true] 4)).cell (p := ⟨bx, 7, none⟩) (show bx < wr.drew.heap.size from al_lt (unhide KX)) |>.trans l7
                    have SKA := hide (show (wr.drew.alloc (.cells #[.bool true] 4)).cell? ⟨b, off + 2, none⟩ = some (.string z) from unhide SK _ (((Below.refl wr.heap.size wr).drew).alloc (show wr.heap.size ≤ wr.drew.heap.size from Nat.le_refl _) _))
                    have SK1 := hide (show w1.cell? ⟨b, off + 2, none⟩ = some (.string z) from (World.cell?_setCell_other _ _ _ _ (by intro h; simp only [Addr.mk.injEq] at h; have := unhide hbb; have := unhide hbx; omega)).symm.trans ((B1.cell (p := ⟨b, off + 2, none⟩) (unhide hbb)).trans (unhide D2)))
                    have SK2 := hide (show (w1.setCell ⟨bx, 7, none⟩ (.slice ka2 kn2 kc2)).cell? ⟨b, off + 2, none⟩ = some (.string z) from (B1.cell (p := ⟨b, off + 2, none⟩) (unhide hbb)).trans (unhide D2))
                    clear h48 h49 hz48 hz49 X1 Z1 O1 N1 B1 KX KZ KO NO KB TS HQ TL
                    go_upto_region 15 with fail
                    refine wp_region_held_drew (S := (fun u : World => u.cell? ⟨b, off + 2, none⟩ = some (.string z))) (by kernel_rfl) (unhide SK _ (Below.refl _ _).drew) (fun hHeld => ?_)
                    refine anyH_take 0 89 (v := ?v10) rfl rfl (by kernel_rfl) (by kernel_rfl) (by kernel_rfl) (fun _ _ _ h => h) (by rfl) ?h10 hHeld ?r10
                    case h10 => (intro w hSw; (try dsimp only at hSw); go_simp; try (with_reducible rfl))
                    simp only [Act.put, List.setIfInBounds_toArray, List.set_cons_zero, List.set_cons_succ]
                    refine anyH_take 2 91 (v := ?v11) rfl rfl (by kernel_rfl) (by kernel_rfl) (by kernel_rfl) (fun _ _ _ h => h) (by rfl) ?h11 hHeld ?r11
                    case h11 => (intro w hSw; (try dsimp only at hSw); go_simp; try (with_reducible rfl))
                    simp only [Act.put, List.setIfInBounds_toArray, List.set_cons_zero, List.set_cons_succ]
                    refine anyH_take 3 92 (v := ?v12) rfl rfl (by kernel_rfl) (by kernel_rfl) (by kernel_rfl) (fun _ _ _ h => h) (by rfl) ?h12 hHeld ?r12
                    case h12 => (intro w hSw; (try dsimp only at hSw); go_simp; try (with_reducible rfl))
                    simp only [Act.put, List.setIfInBounds_toArray, List.set_cons_zero, List.set_cons_succ]
                    refine anyH_take 4 93 (v := ?v13) rfl rfl (by kernel_rfl) (by kernel_rfl) (by kernel_rfl) (fun _ _ _ h => h) (by rfl) ?h13 hHeld ?r13
                    case h13 => (intro w hSw; (try dsimp only at hSw); go_simp; try (with_reducible rfl))
                    simp only [Act.put, List.setIfInBounds_toArray, List.set_cons_zero, List.set_cons_succ]
                    refine anyH_take 5 94 (v := ?v14) rfl rfl (by kernel_rfl) (by kernel_rfl) (by kernel_rfl) (fun _ _ _ h => h) (by rfl) ?h14 hHeld ?r14
                    case h14 => (intro w hSw; (try dsimp only at hSw); go_simp; try (with_reducible rfl))
                    simp only [Act.put, List.setIfInBounds_toArray, List.set_cons_zero, List.set_cons_succ]
                    refine anyH_take 6 95 (v := ?v15) rfl rfl (by kernel_rfl) (by kernel_rfl) (by kernel_rfl) (fun _ _ _ h => h) (by rfl) ?h15 hHeld ?r15
                    case h15 => (intro w hSw; (try dsimp only at hSw); go_simp; try (with_reducible rfl))
                    simp only [Act.put, List.setIfInBounds_toArray, List.set_cons_zero, List.set_cons_succ]
                    refine anyH_take 7 96 (v := ?v16) rfl rfl (by kernel_rfl) (by kernel_rfl) (by kernel_rfl) (fun _ _ _ h => h) (by rfl) ?h16 hHeld ?r16
                    case h16 => (intro w hSw; (try dsimp only at hSw); go_simp; try (with_reducible rfl))
                    simp only [Act.put, List.setIfInBounds_toArray, List.set_cons_zero, List.set_cons_succ]
                    refine wpAnyH_ready (rs := [1, 8]) (by kernel_rfl) (by simp) ?_
                    refine AllReadyH.cons rfl (fun K hK => ?_) (AllReadyH.cons rfl (fun K hK => ?_) AllReadyH.nil)
                    · refine al_stepLoad rfl (.tmp 89) 24 rfl _ _ (by first | rfl | (simp [Act.eval]; done) | (simp [Act.eval, Act.put]; done)) (run_loadK l7) ?_
                      refine hK.out _ _ (unhide SK _ (Below.refl _ _).drew) (fun hHeld => ?_)
                      clear hK K
                      (try simp only [Act.put, List.setIfInBounds_toArray])
                      refine wpAnyH_ready (rs := [8]) (by kernel_rfl) (by simp) ?_
                      refine AllReadyH.cons rfl (fun K hK => ?_) AllReadyH.nil
                      go_simp
                      refine hK.out _ _ (unhide SKA) (fun hHeld => ?_)
                      clear hK K
                      (try simp only [Act.put, List.setIfInBounds_toArray, List.set_cons_zero, List.set_cons_succ])
                      refine wpAnyH_ready (rs := [9]) (by kernel_rfl) (by simp) ?_
                      refine AllReadyH.cons rfl (fun K hK => ?_) AllReadyH.nil
                      refine al_stepApp rfl (.tmp 90) (.tmp 97) 24 rfl _ _ _ w1 (by first | rfl | (simp [Act.eval]; done) | (simp [Act.eval, Act.put]; done)) (by first | rfl | (simp [Act.eval]; done) | (simp [Act.eval, Act.put]; done)) hrun ?_
                      refine hK.out _ _ (unhide SK1) (fun hHeld => ?_)
                      clear hK K
                      (try simp only [Act.put, List.setIfInBounds_toArray])
                      refine anyH_take 10 99 (v := ?v17) rfl rfl (by kernel_rfl) (by kernel_rfl) (by kernel_rfl) (fun _ _ _ h => h) (by rfl) ?h17 hHeld ?r17
                      case h17 => (intro w hSw; (try dsimp only at hSw); go_simp; try (with_reducible rfl))
                      simp only [Act.put]
                      refine wpAnyH_ready (rs := [11]) (by kernel_rfl) (by simp) ?_
                      refine AllReadyH.cons rfl (fun K hK => ?_) AllReadyH.nil
                      go_simp
                      refine hK.out _ _ (unhide SK2) (fun hHeld => ?_)
                      clear hK K
                      (try simp only [Act.put, List.setIfInBounds_toArray, List.set_cons_zero, List.set_cons_succ])
                      refine wpAnyH_done (by kernel_rfl) ?_ _
                      clear hHeld
                      have hzz := unhide HZ
                      go_wp2_with fail
                      go_roundw
                      case rel => exact ⟨j + 1, ka2, kn2, kc2, by omega, by rw [(unhide NX).1], by go_num, hide (unhide RR).1, hide (unhide RR).2.1, hide (by rw [(unhide NX).2]; exact (unhide RR).2.2.1), hide (unhide RR).2.2.2.1, hide (unhide RR).2.2.2.2⟩
                      case measure => simp [intOf]; omega
                    · go_simp
                      refine hK.out _ _ (unhide SKA) (fun hHeld => ?_)
                      clear hK K
                      (try simp only [Act.put, List.setIfInBounds_toArray, List.set_cons_zero, List.set_cons_succ])
                      refine wpAnyH_ready (rs := [1]) (by kernel_rfl) (by simp) ?_
                      refine AllReadyH.cons rfl (fun K hK => ?_) AllReadyH.nil
                      refine al_stepLoad rfl (.tmp 89) 24 rfl _ _ (by first | rfl | (simp [Act.eval]; done) | (simp [Act.eval, Act.put]; done)) (run_loadK l7A) ?_
                      refine hK.out _ _ (unhide SKA) (fun hHeld => ?_)
                      clear hK K
                      (try simp only [Act.put, List.setIfInBounds_toArray])
                      refine wpAnyH_ready (rs := [9]) (by kernel_rfl) (by simp) ?_
                      refine AllReadyH.cons rfl (fun K hK => ?_) AllReadyH.nil
                      refine al_stepApp rfl (.tmp 90) (.tmp 97) 24 rfl _ _ _ w1 (by first | rfl | (simp [Act.eval]; done) | (simp [Act.eval, Act.put]; done)) (by first | rfl | (simp [Act.eval]; done) | (simp [Act.eval, Act.put]; done)) hrun ?_
                      refine hK.out _ _ (unhide SK1) (fun hHeld => ?_)
                      clear hK K
                      (try simp only [Act.put])
                      refine anyH_take 10 99 (v := ?v18) rfl rfl (by kernel_rfl) (by kernel_rfl) (by kernel_rfl) (fun _ _ _ h => h) (by rfl) ?h18 hHeld ?r18
                      case h18 => (intro w hSw; (try dsimp only at hSw); go_simp; try (with_reducible rfl))
                      simp only [Act.put]
                      refine wpAnyH_ready (rs := [11]) (by kernel_rfl) (by simp) ?_
                      refine AllReadyH.cons rfl (fun K hK => ?_) AllReadyH.nil
                      go_simp
                      refine hK.out _ _ (unhide SK2) (fun hHeld => ?_)
                      clear hK K
                      (try simp only [Act.put, List.setIfInBounds_toArray, List.set_cons_zero, List.set_cons_succ])
                      refine wpAnyH_done (by kernel_rfl) ?_ _
                      clear hHeld
                      have hzz := unhide HZ
                      go_wp2_with fail
                      go_roundw
                      case rel => exact ⟨j + 1, ka2, kn2, kc2, by omega, by rw [(unhide NX).1], by go_num, hide (unhide RR).1, hide (unhide RR).2.1, hide (by rw [(unhide NX).2]; exact (unhide RR).2.2.1), hide (unhide RR).2.2.2.1, hide (unhide RR).2.2.2.2⟩
                      case measure => simp [intOf]; omega
                  · have g48 : ((z[j].toNat : Int) == 48) = false := by rw [show (48 : Int) = ((48 : Nat) : Int) from rfl, u8_beq _ 48 (by decide)]; exact beq_eq_false_iff_ne.2 h48
                    have g49 : ((z[j].toNat : Int) == 49) = false := by rw [show (49 : Int) = ((49 : Nat) : Int) from rfl, u8_beq _ 49 (by decide)]; exact beq_eq_false_iff_ne.2 h49
                    obtain ⟨ka2, kn2, kc2, w1, hrun, m7, mf7, X1, Z1, O1, N1, B1, -⟩ := flag_app false (unhide hbx) (unhide KX) (unhide KZ) (unhide KO) (unhide NO) (unhide KB) (by rw [flL_len]; have := unhide TL; omega)
                    have hz49 : (z[j] == 49) = false := beq_eq_false_iff_ne.2 h49
                    have hz48 : (z[j] == 48 || z[j] == 49) = false := by rw [hz49, beq_eq_false_iff_ne.2 h48]; rfl
                    have NX := hide (And.intro (show (ok && okL (z.data.toList.take (j + 1))) = false by rw [unhide TS, okL_snoc, hz48, ← Bool.and_assoc, unhide HQ]; rfl) (show flL (z.data.toList.take (j + 1)) = flL (z.data.toList.take j) ++ [false] by rw [unhide TS, flL_snoc, hz49]))
                    have RR := hide (And.intro X1 (And.intro Z1 (And.intro O1 (And.intro N1 B1))))
                    have l7 := (heap_at (unhide KX) 7).1
                    have SK := hide (show ∀ u : World, Below wr.heap.size wr u → u.cell? ⟨b, off + 2, none⟩ = some (.string z) from fun u hu => (hu.cell (p := ⟨b, off + 2, none⟩) (cell_lt cz)).trans cz)
                    have l7A : (wr.drew.alloc (.cells #[.bool false] 4)).cell? ⟨bx, 7, none⟩ = some (.slice ka kn kc) := ((Below.refl wr.drew.heap.size wr.drew).alloc (Nat.le_refl _) (.cells #[.bool false] 4)).cell (p := ⟨bx, 7, none⟩) (show bx < wr.drew.heap.size from al_lt (unhide KX)) |>.trans l7
                    have SKA := hide (show (wr.drew.alloc (.cells #[.bool false] 4)).cell? ⟨b, off + 2, none⟩ = some (.string z) from unhide SK _ (((Below.refl wr.heap.size wr).drew).alloc (show wr.heap.size ≤ wr.drew.heap.size from Nat.le_refl _) _))
                    have SK1 := hide (show w1.cell? ⟨b, off + 2, none⟩ = some (.string z) from (World.cell?_setCell_other _ _ _ _ (by intro h; simp only [Addr.mk.injEq] at h; have := unhide hbb; have := unhide hbx; omega)).symm.trans ((B1.cell (p := ⟨b, off + 2, none⟩) (unhide hbb)).trans (unhide D2)))
                    have SK2 := hide (show (w1.setCell ⟨bx, 7, none⟩ (.slice ka2 kn2 kc2)).cell? ⟨b, off + 2, none⟩ = some (.string z) from (B1.cell (p := ⟨b, off + 2, none⟩) (unhide hbb)).trans (unhide D2))
                    clear h48 h49 hz48 hz49 X1 Z1 O1 N1 B1 KX KZ KO NO KB TS HQ TL
                    go_upto_region 15 with fail
                    refine wp_region_held_drew (S := (fun u : World => u.cell? ⟨b, off + 2, none⟩ = some (.string z))) (by kernel_rfl) (unhide SK _ (Below.refl _ _).drew) (fun hHeld => ?_)
                    refine anyH_take 0 89 (v := ?v19) rfl rfl (by kernel_rfl) (by kernel_rfl) (by kernel_rfl) (fun _ _ _ h => h) (by rfl) ?h19 hHeld ?r19
                    case h19 => (intro w hSw; (try dsimp only at hSw); go_simp; try (with_reducible rfl))
                    simp only [Act.put, List.setIfInBounds_toArray, List.set_cons_zero, List.set_cons_succ]
                    refine anyH_take 2 91 (v := ?v20) rfl rfl (by kernel_rfl) (by kernel_rfl) (by kernel_rfl) (fun _ _ _ h => h) (by rfl) ?h20 hHeld ?r20
                    case h20 => (intro w hSw; (try dsimp only at hSw); go_simp; try (with_reducible rfl))
                    simp only [Act.put, List.setIfInBounds_toArray, List.set_cons_zero, List.set_cons_succ]
                    refine anyH_take 3 92 (v := ?v21) rfl rfl (by kernel_rfl) (by kernel_rfl) (by kernel_rfl) (fun _ _ _ h => h) (by rfl) ?h21 hHeld ?r21
                    case h21 => (intro w hSw; (try dsimp only at hSw); go_simp; try (with_reducible rfl))
                    simp only [Act.put, List.setIfInBounds_toArray, List.set_cons_zero, List.set_cons_succ]
                    refine anyH_take 4 93 (v := ?v22) rfl rfl (by kernel_rfl) (by kernel_rfl) (by kernel_rfl) (fun _ _ _ h => h) (by rfl) ?h22 hHeld ?r22
                    case h22 => (intro w hSw; (try dsimp only at hSw); go_simp; try (with_reducible rfl))
                    simp only [Act.put, List.setIfInBounds_toArray, List.set_cons_zero, List.set_cons_succ]
                    refine anyH_take 5 94 (v := ?v23) rfl rfl (by kernel_rfl) (by kernel_rfl) (by kernel_rfl) (fun _ _ _ h => h) (by rfl) ?h23 hHeld ?r23
                    case h23 => (intro w hSw; (try dsimp only at hSw); go_simp; try (with_reducible rfl))
                    simp only [Act.put, List.setIfInBounds_toArray, List.set_cons_zero, List.set_cons_succ]
                    refine anyH_take 6 95 (v := ?v24) rfl rfl (by kernel_rfl) (by kernel_rfl) (by kernel_rfl) (fun _ _ _ h => h) (by rfl) ?h24 hHeld ?r24
                    case h24 => (intro w hSw; (try dsimp only at hSw); go_simp; try (with_reducible rfl))
                    simp only [Act.put, List.setIfInBounds_toArray, List.set_cons_zero, List.set_cons_succ]
                    refine anyH_take 7 96 (v := ?v25) rfl rfl (by kernel_rfl) (by kernel_rfl) (by kernel_rfl) (fun _ _ _ h => h) (by rfl) ?h25 hHeld ?r25
                    case h25 => (intro w hSw; (try dsimp only at hSw); go_simp; try (with_reducible rfl))
                    simp only [Act.put, List.setIfInBounds_toArray, List.set_cons_zero, List.set_cons_succ]
                    refine wpAnyH_ready (rs := [1, 8]) (by kernel_rfl) (by simp) ?_
                    refine AllReadyH.cons rfl (fun K hK => ?_) (AllReadyH.cons rfl (fun K hK => ?_) AllReadyH.nil)
                    · refine al_stepLoad rfl (.tmp 89) 24 rfl _ _ (by first | rfl | (simp [Act.eval]; done) | (simp [Act.eval, Act.put]; done)) (run_loadK l7) ?_
                      refine hK.out _ _ (unhide SK _ (Below.refl _ _).drew) (fun hHeld => ?_)
                      clear hK K
                      (try simp only [Act.put, List.setIfInBounds_toArray])
                      refine wpAnyH_ready (rs := [8]) (by kernel_rfl) (by simp) ?_
                      refine AllReadyH.cons rfl (fun K hK => ?_) AllReadyH.nil
                      go_simp
                      refine hK.out _ _ (unhide SKA) (fun hHeld => ?_)
                      clear hK K
                      (try simp only [Act.put, List.setIfInBounds_toArray, List.set_cons_zero, List.set_cons_succ])
                      refine wpAnyH_ready (rs := [9]) (by kernel_rfl) (by simp) ?_
                      refine AllReadyH.cons rfl (fun K hK => ?_) AllReadyH.nil
                      refine al_stepApp rfl (.tmp 90) (.tmp 97) 24 rfl _ _ _ w1 (by first | rfl | (simp [Act.eval]; done) | (simp [Act.eval, Act.put]; done)) (by first | rfl | (simp [Act.eval]; done) | (simp [Act.eval, Act.put]; done)) hrun ?_
                      refine hK.out _ _ (unhide SK1) (fun hHeld => ?_)
                      clear hK K
                      (try simp only [Act.put, List.setIfInBounds_toArray])
                      refine anyH_take 10 99 (v := ?v26) rfl rfl (by kernel_rfl) (by kernel_rfl) (by kernel_rfl) (fun _ _ _ h => h) (by rfl) ?h26 hHeld ?r26
                      case h26 => (intro w hSw; (try dsimp only at hSw); go_simp; try (with_reducible rfl))
                      simp only [Act.put]
                      refine wpAnyH_ready (rs := [11]) (by kernel_rfl) (by simp) ?_
                      refine AllReadyH.cons rfl (fun K hK => ?_) AllReadyH.nil
                      go_simp
                      refine hK.out _ _ (unhide SK2) (fun hHeld => ?_)
                      clear hK K
                      (try simp only [Act.put, List.setIfInBounds_toArray, List.set_cons_zero, List.set_cons_succ])
                      refine wpAnyH_done (by kernel_rfl) ?_ _
                      clear hHeld
                      have hzz := unhide HZ
                      go_wp2_with fail
                      go_roundw
                      case rel => exact ⟨j + 1, ka2, kn2, kc2, by omega, by rw [(unhide NX).1], by go_num, hide (unhide RR).1, hide (unhide RR).2.1, hide (by rw [(unhide NX).2]; exact (unhide RR).2.2.1), hide (unhide RR).2.2.2.1, hide (unhide RR).2.2.2.2⟩
                      case measure => simp [intOf]; omega
                    · go_simp
                      refine hK.out _ _ (unhide SKA) (fun hHeld => ?_)
                      clear hK K
                      (try simp only [Act.put, List.setIfInBounds_toArray, List.set_cons_zero, List.set_cons_succ])
                      refine wpAnyH_ready (rs := [1]) (by kernel_rfl) (by simp) ?_
                      refine AllReadyH.cons rfl (fun K hK => ?_) AllReadyH.nil
                      refine al_stepLoad rfl (.tmp 89) 24 rfl _ _ (by first | rfl | (simp [Act.eval]; done) | (simp [Act.eval, Act.put]; done)) (run_loadK l7A) ?_
                      refine hK.out _ _ (unhide SKA) (fun hHeld => ?_)
                      clear hK K
                      (try simp only [Act.put, List.setIfInBounds_toArray])
                      refine wpAnyH_ready (rs := [9]) (by kernel_rfl) (by simp) ?_
                      refine AllReadyH.cons rfl (fun K hK => ?_) AllReadyH.nil
                      refine al_stepApp rfl (.tmp 90) (.tmp 97) 24 rfl _ _ _ w1 (by first | rfl | (simp [Act.eval]; done) | (simp [Act.eval, Act.put]; done)) (by first | rfl | (simp [Act.eval]; done) | (simp [Act.eval, Act.put]; done)) hrun ?_
                      refine hK.out _ _ (unhide SK1) (fun hHeld => ?_)
                      clear hK K
                      (try simp only [Act.put])
                      refine anyH_take 10 99 (v := ?v27) rfl rfl (by kernel_rfl) (by kernel_rfl) (by kernel_rfl) (fun _ _ _ h => h) (by rfl) ?h27 hHeld ?r27
                      case h27 => (intro w hSw; (try dsimp only at hSw); go_simp; try (with_reducible rfl))
                      simp only [Act.put]
                      refine wpAnyH_ready (rs := [11]) (by kernel_rfl) (by simp) ?_
                      refine AllReadyH.cons rfl (fun K hK => ?_) AllReadyH.nil
                      go_simp
                      refine hK.out _ _ (unhide SK2) (fun hHeld => ?_)
                      clear hK K
                      (try simp only [Act.put, List.setIfInBounds_toArray, List.set_cons_zero, List.set_cons_succ])
                      refine wpAnyH_done (by kernel_rfl) ?_ _
                      clear hHeld
                      have hzz := unhide HZ
                      go_wp2_with fail
                      go_roundw
                      case rel => exact ⟨j + 1, ka2, kn2, kc2, by omega, by rw [(unhide NX).1], by go_num, hide (unhide RR).1, hide (unhide RR).2.1, hide (by rw [(unhide NX).2]; exact (unhide RR).2.2.1), hide (unhide RR).2.2.2.1, hide (unhide RR).2.2.2.2⟩
                      case measure => simp [intOf]; omega
              · by_cases h48 : z[j] = 48
                · have g48 : ((z[j].toNat : Int) == 48) = true := by rw [h48]; rfl
                  have g49 : ((z[j].toNat : Int) == 49) = false := by rw [show (49 : Int) = ((49 : Nat) : Int) from rfl, u8_beq _ 49 (by decide)]; exact beq_eq_false_iff_ne.2 (by rw [h48]; decide)
                  obtain ⟨ka2, kn2, kc2, w1, hrun, m7, mf7, X1, Z1, O1, N1, B1, -⟩ := flag_app false (unhide hbx) (unhide KX) (unhide KZ) (unhide KO) (unhide NO) (unhide KB) (by rw [flL_len]; have := unhide TL; omega)
                  have hz49 : (z[j] == 49) = false := beq_eq_false_iff_ne.2 (by rw [h48]; decide)
                  have hz48 : (z[j] == 48 || z[j] == 49) = true := by rw [h48]; rfl
                  have NX := hide (And.intro (show (ok && okL (z.data.toList.take (j + 1))) = true by rw [unhide TS, okL_snoc, hz48, ← Bool.and_assoc, unhide HQ]; rfl) (show flL (z.data.toList.take (j + 1)) = flL (z.data.toList.take j) ++ [false] by rw [unhide TS, flL_snoc, hz49]))
                  have RR := hide (And.intro X1 (And.intro Z1 (And.intro O1 (And.intro N1 B1))))
                  have l7 := (heap_at (unhide KX) 7).1
                  have SK := hide (show ∀ u : World, Below wr.heap.size wr u → u.cell? ⟨b, off + 2, none⟩ = some (.string z) from fun u hu => (hu.cell (p := ⟨b, off + 2, none⟩) (cell_lt cz)).trans cz)
                  have l7A : (wr.drew.alloc (.cells #[.bool false] 4)).cell? ⟨bx, 7, none⟩ = some (.slice ka kn kc) := ((Below.refl wr.drew.heap.size wr.drew).alloc (Nat.le_refl _) (.cells #[.bool false] 4)).cell (p := ⟨bx, 7, none⟩) (show bx < wr.drew.heap.size from al_lt (unhide KX)) |>.trans l7
                  have SKA := hide (show (wr.drew.alloc (.cells #[.bool false] 4)).cell? ⟨b, off + 2, none⟩ = some (.string z) from unhide SK _ (((Below.refl wr.heap.size wr).drew).alloc (show wr.heap.size ≤ wr.drew.heap.size from Nat.le_refl _) _))
                  have SK1 := hide (show w1.cell? ⟨b, off + 2, none⟩ = some (.string z) from (World.cell?_setCell_other _ _ _ _ (by intro h; simp only [Addr.mk.injEq] at h; have := unhide hbb; have := unhide hbx; omega)).symm.trans ((B1.cell (p := ⟨b, off + 2, none⟩) (unhide hbb)).trans (unhide D2)))
                  have SK2 := hide (show (w1.setCell ⟨bx, 7, none⟩ (.slice ka2 kn2 kc2)).cell? ⟨b, off + 2, none⟩ = some (.string z) from (B1.cell (p := ⟨b, off + 2, none⟩) (unhide hbb)).trans (unhide D2))
                  clear h48 hz48 hz49 X1 Z1 O1 N1 B1 KX KZ KO NO KB TS HQ TL
                  go_upto_region 15 with fail
                  refine wp_region_held_drew (S := (fun u : World => u.cell? ⟨b, off + 2, none⟩ = some (.string z))) (by kernel_rfl) (unhide SK _ (Below.refl _ _).drew) (fun hHeld => ?_)
                  refine anyH_take 0 89 (v := ?v28) rfl rfl (by kernel_rfl) (by kernel_rfl) (by kernel_rfl) (fun _ _ _ h => h) (by rfl) ?h28 hHeld ?r28
                  case h28 => (intro w hSw; (try dsimp only at hSw); go_simp; try (with_reducible rfl))
                  simp only [Act.put, List.setIfInBounds_toArray, List.set_cons_zero, List.set_cons_succ]
                  refine anyH_take 2 91 (v := ?v29) rfl rfl (by kernel_rfl) (by kernel_rfl) (by kernel_rfl) (fun _ _ _ h => h) (by rfl) ?h29 hHeld ?r29
                  case h29 => (intro w hSw; (try dsimp only at hSw); go_simp; try (with_reducible rfl))
                  simp only [Act.put, List.setIfInBounds_toArray, List.set_cons_zero, List.set_cons_succ]
                  refine anyH_take 3 92 (v := ?v30) rfl rfl (by kernel_rfl) (by kernel_rfl) (by kernel_rfl) (fun _ _ _ h => h) (by rfl) ?h30 hHeld ?r30
                  case h30 => (intro w hSw; (try dsimp only at hSw); go_simp; try (with_reducible rfl))
                  simp only [Act.put, List.setIfInBounds_toArray, List.set_cons_zero, List.set_cons_succ]
                  refine anyH_take 4 93 (v := ?v31) rfl rfl (by kernel_rfl) (by kernel_rfl) (by kernel_rfl) (fun _ _ _ h => h) (by rfl) ?h31 hHeld ?r31
                  case h31 => (intro w hSw; (try dsimp only at hSw); go_simp; try (with_reducible rfl))
                  simp only [Act.put, List.setIfInBounds_toArray, List.set_cons_zero, List.set_cons_succ]
                  refine anyH_take 5 94 (v := ?v32) rfl rfl (by kernel_rfl) (by kernel_rfl) (by kernel_rfl) (fun _ _ _ h => h) (by rfl) ?h32 hHeld ?r32
                  case h32 => (intro w hSw; (try dsimp only at hSw); go_simp; try (with_reducible rfl))
                  simp only [Act.put, List.setIfInBounds_toArray, List.set_cons_zero, List.set_cons_succ]
                  refine anyH_take 6 95 (v := ?v33) rfl rfl (by kernel_rfl) (by kernel_rfl) (by kernel_rfl) (fun _ _ _ h => h) (by rfl) ?h33 hHeld ?r33
                  case h33 => (intro w hSw; (try dsimp only at hSw); go_simp; try (with_reducible rfl))
                  simp only [Act.put, List.setIfInBounds_toArray, List.set_cons_zero, List.set_cons_succ]
                  refine anyH_take 7 96 (v := ?v34) rfl rfl (by kernel_rfl) (by kernel_rfl) (by kernel_rfl) (fun _ _ _ h => h) (by rfl) ?h34 hHeld ?r34
                  case h34 => (intro w hSw; (try dsimp only at hSw); go_simp; try (with_reducible rfl))
                  simp only [Act.put, List.setIfInBounds_toArray, List.set_cons_zero, List.set_cons_succ]
                  refine wpAnyH_ready (rs := [1, 8]) (by kernel_rfl) (by simp) ?_
                  refine AllReadyH.cons rfl (fun K hK => ?_) (AllReadyH.cons rfl (fun K hK => ?_) AllReadyH.nil)
                  · refine al_stepLoad rfl (.tmp 89) 24 rfl _ _ (by first | rfl | (simp [Act.eval]; done) | (simp [Act.eval, Act.put]; done)) (run_loadK l7) ?_
                    refine hK.out _ _ (unhide SK _ (Below.refl _ _).drew) (fun hHeld => ?_)
                    clear hK K
                    (try simp only [Act.put, List.setIfInBounds_toArray])
                    refine wpAnyH_ready (rs := [8]) (by kernel_rfl) (by simp) ?_
                    refine AllReadyH.cons rfl (fun K hK => ?_) AllReadyH.nil
                    go_simp
                    refine hK.out _ _ (unhide SKA) (fun hHeld => ?_)
                    clear hK K
                    (try simp only [Act.put, List.setIfInBounds_toArray, List.set_cons_zero, List.set_cons_succ])
                    refine wpAnyH_ready (rs := [9]) (by kernel_rfl) (by simp) ?_
                    refine AllReadyH.cons rfl (fun K hK => ?_) AllReadyH.nil
                    refine al_stepApp rfl (.tmp 90) (.tmp 97) 24 rfl _ _ _ w1 (by first | rfl | (simp [Act.eval]; done) | (simp [Act.eval, Act.put]; done)) (by first | rfl | (simp [Act.eval]; done) | (simp [Act.eval, Act.put]; done)) hrun ?_
                    refine hK.out _ _ (unhide SK1) (fun hHeld => ?_)
                    clear hK K
                    (try simp only [Act.put, List.setIfInBounds_toArray])
                    refine anyH_take 10 99 (v := ?v35) rfl rfl (by kernel_rfl) (by kernel_rfl) (by kernel_rfl) (fun _ _ _ h => h) (by rfl) ?h35 hHeld ?r35
                    case h35 => (intro w hSw; (try dsimp only at hSw); go_simp; try (with_reducible rfl))
                    simp only [Act.put]
                    refine wpAnyH_ready (rs := [11]) (by kernel_rfl) (by simp) ?_
                    refine AllReadyH.cons rfl (fun K hK => ?_) AllReadyH.nil
                    go_simp
                    refine hK.out _ _ (unhide SK2) (fun hHeld => ?_)
                    clear hK K
                    (try simp only [Act.put, List.setIfInBounds_toArray, List.set_cons_zero, List.set_cons_succ])
                    refine wpAnyH_done (by kernel_rfl) ?_ _
                    clear hHeld
                    have hzz := unhide HZ
                    go_wp2_with fail
                    go_roundw
                    case rel => exact ⟨j + 1, ka2, kn2, kc2, by omega, by rw [(unhide NX).1], by go_num, hide (unhide RR).1, hide (unhide RR).2.1, hide (by rw [(unhide NX).2]; exact (unhide RR).2.2.1), hide (unhide RR).2.2.2.1, hide (unhide RR).2.2.2.2⟩
                    case measure => simp [intOf]; omega
                  · go_simp
                    refine hK.out _ _ (unhide SKA) (fun hHeld => ?_)
                    clear hK K
                    (try simp only [Act.put, List.setIfInBounds_toArray, List.set_cons_zero, List.set_cons_succ])
                    refine wpAnyH_ready (rs := [1]) (by kernel_rfl) (by simp) ?_
                    refine AllReadyH.cons rfl (fun K hK => ?_) AllReadyH.nil
                    refine al_stepLoad rfl (.tmp 89) 24 rfl _ _ (by first | rfl | (simp [Act.eval]; done) | (simp [Act.eval, Act.put]; done)) (run_loadK l7A) ?_
                    refine hK.out _ _ (unhide SKA) (fun hHeld => ?_)
                    clear hK K
                    (try simp only [Act.put, List.setIfInBounds_toArray])
                    refine wpAnyH_ready (rs := [9]) (by kernel_rfl) (by simp) ?_
                    refine AllReadyH.cons rfl (fun K hK => ?_) AllReadyH.nil
                    refine al_stepApp rfl (.tmp 90) (.tmp 97) 24 rfl _ _ _ w1 (by first | rfl | (simp [Act.eval]; done) | (simp [Act.eval, Act.put]; done)) (by first | rfl | (simp [Act.eval]; done) | (simp [Act.eval, Act.put]; done)) hrun ?_
                    refine hK.out _ _ (unhide SK1) (fun hHeld => ?_)
                    clear hK K
                    (try simp only [Act.put])
                    refine anyH_take 10 99 (v := ?v36) rfl rfl (by kernel_rfl) (by kernel_rfl) (by kernel_rfl) (fun _ _ _ h => h) (by rfl) ?h36 hHeld ?r36
                    case h36 => (intro w hSw; (try dsimp only at hSw); go_simp; try (with_reducible rfl))
                    simp only [Act.put]
                    refine wpAnyH_ready (rs := [11]) (by kernel_rfl) (by simp) ?_
                    refine AllReadyH.cons rfl (fun K hK => ?_) AllReadyH.nil
                    go_simp
                    refine hK.out _ _ (unhide SK2) (fun hHeld => ?_)
                    clear hK K
                    (try simp only [Act.put, List.setIfInBounds_toArray, List.set_cons_zero, List.set_cons_succ])
                    refine wpAnyH_done (by kernel_rfl) ?_ _
                    clear hHeld
                    have hzz := unhide HZ
                    go_wp2_with fail
                    go_roundw
                    case rel => exact ⟨j + 1, ka2, kn2, kc2, by omega, by rw [(unhide NX).1], by go_num, hide (unhide RR).1, hide (unhide RR).2.1, hide (by rw [(unhide NX).2]; exact (unhide RR).2.2.1), hide (unhide RR).2.2.2.1, hide (unhide RR).2.2.2.2⟩
                    case measure => simp [intOf]; omega
                · by_cases h49 : z[j] = 49
                  · have g48 : ((z[j].toNat : Int) == 48) = false := by rw [show (48 : Int) = ((48 : Nat) : Int) from rfl, u8_beq _ 48 (by decide)]; exact beq_eq_false_iff_ne.2 (by rw [h49]; decide)
                    have g49 : ((z[j].toNat : Int) == 49) = true := by rw [h49]; rfl
                    obtain ⟨ka2, kn2, kc2, w1, hrun, m7, mf7, X1, Z1, O1, N1, B1, -⟩ := flag_app true (unhide hbx) (unhide KX) (unhide KZ) (unhide KO) (unhide NO) (unhide KB) (by rw [flL_len]; have := unhide TL; omega)
                    have hz49 : (z[j] == 49) = true := by rw [h49]; rfl
                    have hz48 : (z[j] == 48 || z[j] == 49) = true := by rw [h49]; rfl
                    have NX := hide (And.intro (show (ok && okL (z.data.toList.take (j + 1))) = true by rw [unhide TS, okL_snoc, hz48, ← Bool.and_assoc, unhide HQ]; rfl) (show flL (z.data.toList.take (j + 1)) = flL (z.data.toList.take j) ++ [true] by rw [unhide TS, flL_snoc, hz49]))
                    have RR := hide (And.intro X1 (And.intro Z1 (And.intro O1 (And.intro N1 B1))))
                    have l7 := (heap_at (unhide KX) 7).1
                    have SK := hide (show ∀ u : World, Below wr.heap.size wr u → u.cell? ⟨b, off + 2, none⟩ = some (.string z) from fun u hu => (hu.cell (p := ⟨b, off + 2, none⟩) (cell_lt cz)).trans cz)
                    have l7A : (wr.drew.alloc (.cells #[.bool true] 4)).cell? ⟨bx, 7, none⟩ = some (.slice ka kn kc) := ((Below.refl wr.drew.heap.size wr.drew).alloc (Nat.le_refl _) (.cells #[.bool true] 4)).cell (p := ⟨bx, 7, none⟩) (show bx < wr.drew.heap.size from al_lt (unhide KX)) |>.trans l7
                    have SKA := hide (show (wr.drew.alloc (.cells #[.bool true] 4)).cell? ⟨b, off + 2, none⟩ = some (.string z) from unhide SK _ (((Below.refl wr.heap.size wr).drew).alloc (show wr.heap.size ≤ wr.drew.heap.size from Nat.le_refl _) _))
                    have SK1 := hide (show w1.cell? ⟨b, off + 2, none⟩ = some (.string z) from (World.cell?_setCell_other _ _ _ _ (by intro h; simp only [Addr.mk.injEq] at h; have := unhide hbb; have := unhide hbx; omega)).symm.trans ((B1.cell (p := ⟨b, off + 2, none⟩) (unhide hbb)).trans (unhide D2)))
                    have SK2 := hide (show (w1.setCell ⟨bx, 7, none⟩ (.slice ka2 kn2 kc2)).cell? ⟨b, off + 2, none⟩ = some (.string z) from (B1.cell (p := ⟨b, off + 2, none⟩) (unhide hbb)).trans (unhide D2))
                    clear h48 h49 hz48 hz49 X1 Z1 O1 N1 B1 KX KZ KO NO KB TS HQ TL
                    go_upto_region 15 with fail
                    refine wp_region_held_drew (S := (fun u : World => u.cell? ⟨b, off + 2, none⟩ = some (.string z))) (by kernel_rfl) (unhide SK _ (Below.refl _ _).drew) (fun hHeld => ?_)
                    refine anyH_take 0 89 (v := ?v37) rfl rfl (by kernel_rfl) (by kernel_rfl) (by kernel_rfl) (fun _ _ _ h => h) (by rfl) ?h37 hHeld ?r37
                    case h37 => (intro w hSw; (try dsimp only at hSw); go_simp; try (with_reducible rfl))
                    simp only [Act.put, List.setIfInBounds_toArray, List.set_cons_zero, List.set_cons_succ]
                    refine anyH_take 2 91 (v := ?v38) rfl rfl (by kernel_rfl) (by kernel_rfl) (by kernel_rfl) (fun _ _ _ h => h) (by rfl) ?h38 hHeld ?r38
                    case h38 => (intro w hSw; (try dsimp only at hSw); go_simp; try (with_reducible rfl))
                    simp only [Act.put, List.setIfInBounds_toArray, List.set_cons_zero, List.set_cons_succ]
                    refine anyH_take 3 92 (v := ?v39) rfl rfl (by kernel_rfl) (by kernel_rfl) (by kernel_rfl) (fun _ _ _ h => h) (by rfl) ?h39 hHeld ?r39
                    case h39 => (intro w hSw; (try dsimp only at hSw); go_simp; try (with_reducible rfl))
                    simp only [Act.put, List.setIfInBounds_toArray, List.set_cons_zero, List.set_cons_succ]
                    refine anyH_take 4 93 (v := ?v40) rfl rfl (by kernel_rfl) (by kernel_rfl) (by kernel_rfl) (fun _ _ _ h => h) (by rfl) ?h40 hHeld ?r40
                    case h40 => (intro w hSw; (try dsimp only at hSw); go_simp; try (with_reducible rfl))
                    simp only [Act.put, List.setIfInBounds_toArray, List.set_cons_zero, List.set_cons_succ]
                    refine anyH_take 5 94 (v := ?v41) rfl rfl (by kernel_rfl) (by kernel_rfl) (by kernel_rfl) (fun _ _ _ h => h) (by rfl) ?h41 hHeld ?r41
                    case h41 => (intro w hSw; (try dsimp only at hSw); go_simp; try (with_reducible rfl))
                    simp only [Act.put, List.setIfInBounds_toArray, List.set_cons_zero, List.set_cons_succ]
                    refine anyH_take 6 95 (v := ?v42) rfl rfl (by kernel_rfl) (by kernel_rfl) (by kernel_rfl) (fun _ _ _ h => h) (by rfl) ?h42 hHeld ?r42
                    case h42 => (intro w hSw; (try dsimp only at hSw); go_simp; try (with_reducible rfl))
                    simp only [Act.put, List.setIfInBounds_toArray, List.set_cons_zero, List.set_cons_succ]
                    refine anyH_take 7 96 (v := ?v43) rfl rfl (by kernel_rfl) (by kernel_rfl) (by kernel_rfl) (fun _ _ _ h => h) (by rfl) ?h43 hHeld ?r43
                    case h43 => (intro w hSw; (try dsimp only at hSw); go_simp; try (with_reducible rfl))
                    simp only [Act.put, List.setIfInBounds_toArray, List.set_cons_zero, List.set_cons_succ]
                    refine wpAnyH_ready (rs := [1, 8]) (by kernel_rfl) (by simp) ?_
                    refine AllReadyH.cons rfl (fun K hK => ?_) (AllReadyH.cons rfl (fun K hK => ?_) AllReadyH.nil)
                    · refine al_stepLoad rfl (.tmp 89) 24 rfl _ _ (by first | rfl | (simp [Act.eval]; done) | (simp [Act.eval, Act.put]; done)) (run_loadK l7) ?_
                      refine hK.out _ _ (unhide SK _ (Below.refl _ _).drew) (fun hHeld => ?_)
                      clear hK K
                      (try simp only [Act.put, List.setIfInBounds_toArray])
                      refine wpAnyH_ready (rs := [8]) (by kernel_rfl) (by simp) ?_
                      refine AllReadyH.cons rfl (fun K hK => ?_) AllReadyH.nil
                      go_simp
                      refine hK.out _ _ (unhide SKA) (fun hHeld => ?_)
                      clear hK K
                      (try simp only [Act.put, List.setIfInBounds_toArray, List.set_cons_zero, List.set_cons_succ])
                      refine wpAnyH_ready (rs := [9]) (by kernel_rfl) (by simp) ?_
                      refine AllReadyH.cons rfl (fun K hK => ?_) AllReadyH.nil
                      refine al_stepApp rfl (.tmp 90) (.tmp 97) 24 rfl _ _ _ w1 (by first | rfl | (simp [Act.eval]; done) | (simp [Act.eval, Act.put]; done)) (by first | rfl | (simp [Act.eval]; done) | (simp [Act.eval, Act.put]; done)) hrun ?_
                      refine hK.out _ _ (unhide SK1) (fun hHeld => ?_)
                      clear hK K
                      (try simp only [Act.put, List.setIfInBounds_toArray])
                      refine anyH_take 10 99 (v := ?v44) rfl rfl (by kernel_rfl) (by kernel_rfl) (by kernel_rfl) (fun _ _ _ h => h) (by rfl) ?h44 hHeld ?r44
                      case h44 => (intro w hSw; (try dsimp only at hSw); go_simp; try (with_reducible rfl))
                      simp only [Act.put]
                      refine wpAnyH_ready (rs := [11]) (by kernel_rfl) (by simp) ?_
                      refine AllReadyH.cons rfl (fun K hK => ?_) AllReadyH.nil
                      go_simp
                      refine hK.out _ _ (unhide SK2) (fun hHeld => ?_)
                      clear hK K
                      (try simp only [Act.put, List.setIfInBounds_toArray, List.set_cons_zero, List.set_cons_succ])
                      refine wpAnyH_done (by kernel_rfl) ?_ _
                      clear hHeld
                      have hzz := unhide HZ
                      go_wp2_with fail
                      go_roundw
                      case rel => exact ⟨j + 1, ka2, kn2, kc2, by omega, by rw [(unhide NX).1], by go_num, hide (unhide RR).1, hide (unhide RR).2.1, hide (by rw [(unhide NX).2]; exact (unhide RR).2.2.1), hide (unhide RR).2.2.2.1, hide (unhide RR).2.2.2.2⟩
                      case measure => simp [intOf]; omega
                    · go_simp
                      refine hK.out _ _ (unhide SKA) (fun hHeld => ?_)
                      clear hK K
                      (try simp only [Act.put, List.setIfInBounds_toArray, List.set_cons_zero, List.set_cons_succ])
                      refine wpAnyH_ready (rs := [1]) (by kernel_rfl) (by simp) ?_
                      refine AllReadyH.cons rfl (fun K hK => ?_) AllReadyH.nil
                      refine al_stepLoad rfl (.tmp 89) 24 rfl _ _ (by first | rfl | (simp [Act.eval]; done) | (simp [Act.eval, Act.put]; done)) (run_loadK l7A) ?_
                      refine hK.out _ _ (unhide SKA) (fun hHeld => ?_)
                      clear hK K
                      (try simp only [Act.put, List.setIfInBounds_toArray])
                      refine wpAnyH_ready (rs := [9]) (by kernel_rfl) (by simp) ?_
                      refine AllReadyH.cons rfl (fun K hK => ?_) AllReadyH.nil
                      refine al_stepApp rfl (.tmp 90) (.tmp 97) 24 rfl _ _ _ w1 (by first | rfl | (simp [Act.eval]; done) | (simp [Act.eval, Act.put]; done)) (by first | rfl | (simp [Act.eval]; done) | (simp [Act.eval, Act.put]; done)) hrun ?_
                      refine hK.out _ _ (unhide SK1) (fun hHeld => ?_)
                      clear hK K
                      (try simp only [Act.put])
                      refine anyH_take 10 99 (v := ?v45) rfl rfl (by kernel_rfl) (by kernel_rfl) (by kernel_rfl) (fun _ _ _ h => h) (by rfl) ?h45 hHeld ?r45
                      case h45 => (intro w hSw; (try dsimp only at hSw); go_simp; try (with_reducible rfl))
                      simp only [Act.put]
                      refine wpAnyH_ready (rs := [11]) (by kernel_rfl) (by simp) ?_
                      refine AllReadyH.cons rfl (fun K hK => ?_) AllReadyH.nil
                      go_simp
                      refine hK.out _ _ (unhide SK2) (fun hHeld => ?_)
                      clear hK K
                      (try simp only [Act.put, List.setIfInBounds_toArray, List.set_cons_zero, List.set_cons_succ])
                      refine wpAnyH_done (by kernel_rfl) ?_ _
                      clear hHeld
                      have hzz := unhide HZ
                      go_wp2_with fail
                      go_roundw
                      case rel => exact ⟨j + 1, ka2, kn2, kc2, by omega, by rw [(unhide NX).1], by go_num, hide (unhide RR).1, hide (unhide RR).2.1, hide (by rw [(unhide NX).2]; exact (unhide RR).2.2.1), hide (unhide RR).2.2.2.1, hide (unhide RR).2.2.2.2⟩
                      case measure => simp [intOf]; omega
                  · have g48 : ((z[j].toNat : Int) == 48) = false := by rw [show (48 : Int) = ((48 : Nat) : Int) from rfl, u8_beq _ 48 (by decide)]; exact beq_eq_false_iff_ne.2 h48
                    have g49 : ((z[j].toNat : Int) == 49) = false := by rw [show (49 : Int) = ((49 : Nat) : Int) from rfl, u8_beq _ 49 (by decide)]; exact beq_eq_false_iff_ne.2 h49
                    obtain ⟨ka2, kn2, kc2, w1, hrun, m7, mf7, X1, Z1, O1, N1, B1, -⟩ := flag_app false (unhide hbx) (unhide KX) (unhide KZ) (unhide KO) (unhide NO) (unhide KB) (by rw [flL_len]; have := unhide TL; omega)
                    have hz49 : (z[j] == 49) = false := beq_eq_false_iff_ne.2 h49
                    have hz48 : (z[j] == 48 || z[j] == 49) = false := by rw [hz49, beq_eq_false_iff_ne.2 h48]; rfl
                    have NX := hide (And.intro (show (ok && okL (z.data.toList.take (j + 1))) = false by rw [unhide TS, okL_snoc, hz48, ← Bool.and_assoc, unhide HQ]; rfl) (show flL (z.data.toList.take (j + 1)) = flL (z.data.toList.take j) ++ [false] by rw [unhide TS, flL_snoc, hz49]))
                    have RR := hide (And.intro X1 (And.intro Z1 (And.intro O1 (And.intro N1 B1))))
                    have l7 := (heap_at (unhide KX) 7).1
                    have SK := hide (show ∀ u : World, Below wr.heap.size wr u → u.cell? ⟨b, off + 2, none⟩ = some (.string z) from fun u hu => (hu.cell (p := ⟨b, off + 2, none⟩) (cell_lt cz)).trans cz)
                    have l7A : (wr.drew.alloc (.cells #[.bool false] 4)).cell? ⟨bx, 7, none⟩ = some (.slice ka kn kc) := ((Below.refl wr.drew.heap.size wr.drew).alloc (Nat.le_refl _) (.cells #[.bool false] 4)).cell (p := ⟨bx, 7, none⟩) (show bx < wr.drew.heap.size from al_lt (unhide KX)) |>.trans l7
                    have SKA := hide (show (wr.drew.alloc (.cells #[.bool false] 4)).cell? ⟨b, off + 2, none⟩ = some (.string z) from unhide SK _ (((Below.refl wr.heap.size wr).drew).alloc (show wr.heap.size ≤ wr.drew.heap.size from Nat.le_refl _) _))
                    have SK1 := hide (show w1.cell? ⟨b, off + 2, none⟩ = some (.string z) from (World.cell?_setCell_other _ _ _ _ (by intro h; simp only [Addr.mk.injEq] at h; have := unhide hbb; have := unhide hbx; omega)).symm.trans ((B1.cell (p := ⟨b, off + 2, none⟩) (unhide hbb)).trans (unhide D2)))
                    have SK2 := hide (show (w1.setCell ⟨bx, 7, none⟩ (.slice ka2 kn2 kc2)).cell? ⟨b, off + 2, none⟩ = some (.string z) from (B1.cell (p := ⟨b, off + 2, none⟩) (unhide hbb)).trans (unhide D2))
                    clear h48 h49 hz48 hz49 X1 Z1 O1 N1 B1 KX KZ KO NO KB TS HQ TL
                    go_upto_region 15 with fail
                    refine wp_region_held_drew (S := (fun u : World => u.cell? ⟨b, off + 2, none⟩ = some (.string z))) (by kernel_rfl) (unhide SK _ (Below.refl _ _).drew) (fun hHeld => ?_)
                    refine anyH_take 0 89 (v := ?v46) rfl rfl (by kernel_rfl) (by kernel_rfl) (by kernel_rfl) (fun _ _ _ h => h) (by rfl) ?h46 hHeld ?r46
                    case h46 => (intro w hSw; (try dsimp only at hSw); go_simp; try (with_reducible rfl))
                    simp only [Act.put, List.setIfInBounds_toArray, List.set_cons_zero, List.set_cons_succ]
                    refine anyH_take 2 91 (v := ?v47) rfl rfl (by kernel_rfl) (by kernel_rfl) (by kernel_rfl) (fun _ _ _ h => h) (by rfl) ?h47 hHeld ?r47
                    case h47 => (intro w hSw; (try dsimp only at hSw); go_simp; try (with_reducible rfl))
                    simp only [Act.put, List.setIfInBounds_toArray, List.set_cons_zero, List.set_cons_succ]
                    refine anyH_take 3 92 (v := ?v48) rfl rfl (by kernel_rfl) (by kernel_rfl) (by kernel_rfl) (fun _ _ _ h => h) (by rfl) ?h48 hHeld ?r48
                    case h48 => (intro w hSw; (try dsimp only at hSw); go_simp; try (with_reducible rfl))
                    simp only [Act.put, List.setIfInBounds_toArray, List.set_cons_zero, List.set_cons_succ]
                    refine anyH_take 4 93 (v := ?v49) rfl rfl (by kernel_rfl) (by kernel_rfl) (by kernel_rfl) (fun _ _ _ h => h) (by rfl) ?h49 hHeld ?r49
                    case h49 => (intro w hSw; (try dsimp only at hSw); go_simp; try (with_reducible rfl))
                    simp only [Act.put, List.setIfInBounds_toArray, List.set_cons_zero, List.set_cons_succ]
                    refine anyH_take 5 94 (v := ?v50) rfl rfl (by kernel_rfl) (by kernel_rfl) (by kernel_rfl) (fun _ _ _ h => h) (by rfl) ?h50 hHeld ?r50
                    case h50 => (intro w hSw; (try dsimp only at hSw); go_simp; try (with_reducible rfl))
                    simp only [Act.put, List.setIfInBounds_toArray, List.set_cons_zero, List.set_cons_succ]
                    refine anyH_take 6 95 (v := ?v51) rfl rfl (by kernel_rfl) (by kernel_rfl) (by kernel_rfl) (fun _ _ _ h => h) (by rfl) ?h51 hHeld ?r51
                    case h51 => (intro w hSw; (try dsimp only at hSw); go_simp; try (with_reducible rfl))
                    simp only [Act.put, List.setIfInBounds_toArray, List.set_cons_zero, List.set_cons_succ]
                    refine anyH_take 7 96 (v := ?v52) rfl rfl (by kernel_rfl) (by kernel_rfl) (by kernel_rfl) (fun _ _ _ h => h) (by rfl) ?h52 hHeld ?r52
                    case h52 => (intro w hSw; (try dsimp only at hSw); go_simp; try (with_reducible rfl))
                    simp only [Act.put, List.setIfInBounds_toArray, List.set_cons_zero, List.set_cons_succ]
                    refine wpAnyH_ready (rs := [1, 8]) (by kernel_rfl) (by simp) ?_
                    refine AllReadyH.cons rfl (fun K hK => ?_) (AllReadyH.cons rfl (fun K hK => ?_) AllReadyH.nil)
                    · refine al_stepLoad rfl (.tmp 89) 24 rfl _ _ (by first | rfl | (simp [Act.eval]; done) | (simp [Act.eval, Act.put]; done)) (run_loadK l7) ?_
                      refine hK.out _ _ (unhide SK _ (Below.refl _ _).drew) (fun hHeld => ?_)
                      clear hK K
                      (try simp only [Act.put, List.setIfInBounds_toArray])
                      refine wpAnyH_ready (rs := [8]) (by kernel_rfl) (by simp) ?_
                      refine AllReadyH.cons rfl (fun K hK => ?_) AllReadyH.nil
                      go_simp
                      refine hK.out _ _ (unhide SKA) (fun hHeld => ?_)
                      clear hK K
                      (try simp only [Act.put, List.setIfInBounds_toArray, List.set_cons_zero, List.set_cons_succ])
                      refine wpAnyH_ready (rs := [9]) (by kernel_rfl) (by simp) ?_
                      refine AllReadyH.cons rfl (fun K hK => ?_) AllReadyH.nil
                      refine al_stepApp rfl (.tmp 90) (.tmp 97) 24 rfl _ _ _ w1 (by first | rfl | (simp [Act.eval]; done) | (simp [Act.eval, Act.put]; done)) (by first | rfl | (simp [Act.eval]; done) | (simp [Act.eval, Act.put]; done)) hrun ?_
                      refine hK.out _ _ (unhide SK1) (fun hHeld => ?_)
                      clear hK K
                      (try simp only [Act.put, List.setIfInBounds_toArray])
                      refine anyH_take 10 99 (v := ?v53) rfl rfl (by kernel_rfl) (by kernel_rfl) (by kernel_rfl) (fun _ _ _ h => h) (by rfl) ?h53 hHeld ?r53
                      case h53 => (intro w hSw; (try dsimp only at hSw); go_simp; try (with_reducible rfl))
                      simp only [Act.put]
                      refine wpAnyH_ready (rs := [11]) (by kernel_rfl) (by simp) ?_
                      refine AllReadyH.cons rfl (fun K hK => ?_) AllReadyH.nil
                      go_simp
                      refine hK.out _ _ (unhide SK2) (fun hHeld => ?_)
                      clear hK K
                      (try simp only [Act.put, List.setIfInBounds_toArray, List.set_cons_zero, List.set_cons_succ])
                      refine wpAnyH_done (by kernel_rfl) ?_ _
                      clear hHeld
                      have hzz := unhide HZ
                      go_wp2_with fail
                      go_roundw
                      case rel => exact ⟨j + 1, ka2, kn2, kc2, by omega, by rw [(unhide NX).1], by go_num, hide (unhide RR).1, hide (unhide RR).2.1, hide (by rw [(unhide NX).2]; exact (unhide RR).2.2.1), hide (unhide RR).2.2.2.1, hide (unhide RR).2.2.2.2⟩
                      case measure => simp [intOf]; omega
                    · go_simp
                      refine hK.out _ _ (unhide SKA) (fun hHeld => ?_)
                      clear hK K
                      (try simp only [Act.put, List.setIfInBounds_toArray, List.set_cons_zero, List.set_cons_succ])
                      refine wpAnyH_ready (rs := [1]) (by kernel_rfl) (by simp) ?_
                      refine AllReadyH.cons rfl (fun K hK => ?_) AllReadyH.nil
                      refine al_stepLoad rfl (.tmp 89) 24 rfl _ _ (by first | rfl | (simp [Act.eval]; done) | (simp [Act.eval, Act.put]; done)) (run_loadK l7A) ?_
                      refine hK.out _ _ (unhide SKA) (fun hHeld => ?_)
                      clear hK K
                      (try simp only [Act.put, List.setIfInBounds_toArray])
                      refine wpAnyH_ready (rs := [9]) (by kernel_rfl) (by simp) ?_
                      refine AllReadyH.cons rfl (fun K hK => ?_) AllReadyH.nil
                      refine al_stepApp rfl (.tmp 90) (.tmp 97) 24 rfl _ _ _ w1 (by first | rfl | (simp [Act.eval]; done) | (simp [Act.eval, Act.put]; done)) (by first | rfl | (simp [Act.eval]; done) | (simp [Act.eval, Act.put]; done)) hrun ?_
                      refine hK.out _ _ (unhide SK1) (fun hHeld => ?_)
                      clear hK K
                      (try simp only [Act.put])
                      refine anyH_take 10 99 (v := ?v54) rfl rfl (by kernel_rfl) (by kernel_rfl) (by kernel_rfl) (fun _ _ _ h => h) (by rfl) ?h54 hHeld ?r54
                      case h54 => (intro w hSw; (try dsimp only at hSw); go_simp; try (with_reducible rfl))
                      simp only [Act.put]
                      refine wpAnyH_ready (rs := [11]) (by kernel_rfl) (by simp) ?_
                      refine AllReadyH.cons rfl (fun K hK => ?_) AllReadyH.nil
                      go_simp
                      refine hK.out _ _ (unhide SK2) (fun hHeld => ?_)
                      clear hK K
                      (try simp only [Act.put, List.setIfInBounds_toArray, List.set_cons_zero, List.set_cons_succ])
                      refine wpAnyH_done (by kernel_rfl) ?_ _
                      clear hHeld
                      have hzz := unhide HZ
                      go_wp2_with fail
                      go_roundw
                      case rel => exact ⟨j + 1, ka2, kn2, kc2, by omega, by rw [(unhide NX).1], by go_num, hide (unhide RR).1, hide (unhide RR).2.1, hide (by rw [(unhide NX).2]; exact (unhide RR).2.2.1), hide (unhide RR).2.2.2.1, hide (unhide RR).2.2.2.2⟩
                      case measure => simp [intOf]; omega
            · obtain rfl : j = z.size := by omega
              have FT := hide (show z.data.toList.take z.size = z.data.toList from List.take_of_length_le (by rw [Array.length_toList]; exact Nat.le_refl _))
              generalize hq : (ok && okL (z.data.toList.take z.size)) = q at *
              have HQ := hide hq
              clear hq hlt TL
              have x0 := (heap_at (unhide KX) 0).1
              have x1 := (heap_at (unhide KX) 1).1
              have x2 := (heap_at (unhide KX) 2).1
              have x3 := (heap_at (unhide KX) 3).1
              have x4 := (heap_at (unhide KX) 4).1
              have x5 := (heap_at (unhide KX) 5).1
              have x6 := (heap_at (unhide KX) 6).1
              have x7 := (heap_at (unhide KX) 7).1
              generalize hfs : flL (z.data.toList.take z.size) = fs at KO
              have HF := hide hfs
              clear hfs
              have run := run_storeAl (unhide KZ) (crA v fs) ka kn kc
              have kk := hide (sv8_heap (unhide KZ) (.int .i64 3) (.int .i64 v) (.int .i64 0) (.int .i64 0) (.string ⟨#[]⟩) (.string ⟨#[]⟩) (.string ⟨#[]⟩) (.slice ka kn kc))
              have RES := hide (And.intro (show acW L = (if q = true then some (crA v fs) else none) from (unhide AC).trans (by rw [← unhide HF, unhide FT, (unhide DD).1, ← unhide HQ, unhide FT]; cases ok <;> cases okL z.data.toList <;> rfl)) (And.intro (sv8_below (unhide KB) (Nat.le_refl w.heap.size) (.int .i64 3) (.int .i64 v) (.int .i64 0) (.int .i64 0) (.string ⟨#[]⟩) (.string ⟨#[]⟩) (.string ⟨#[]⟩) (.slice ka kn kc)) (keep_sv8 (unhide KO) (.int .i64 3) (.int .i64 v) (.int .i64 0) (.int .i64 0) (.string ⟨#[]⟩) (.string ⟨#[]⟩) (.string ⟨#[]⟩) (.slice ka kn kc))))
              unfold sv8d crA at run
              simp only at run
              clear KZ KB AC DD KX NO HQ FT HF D2
              go_wp2_with (first | (refine al_wpStore rfl (.tmp 2) (.tmp 100) 26 rfl _ _ _ (by simp [Act.eval]) (by simp [Act.eval]) run ?_))
              generalize sv8 _ w.heap.size (.int .i64 3) (.int .i64 v) (.int .i64 0) (.int .i64 0) (.string ⟨#[]⟩) (.string ⟨#[]⟩) (.string ⟨#[]⟩) (.slice ka kn kc) = u at *
              have y0 := (heap_at (unhide kk) 0).1
              have y1 := (heap_at (unhide kk) 1).1
              have y2 := (heap_at (unhide kk) 2).1
              have y3 := (heap_at (unhide kk) 3).1
              have y4 := (heap_at (unhide kk) 4).1
              have y5 := (heap_at (unhide kk) 5).1
              have y6 := (heap_at (unhide kk) 6).1
              have y7 := (heap_at (unhide kk) 7).1
              clear run kk
              go_wp2_with fail
              refine bodyPost_ret (v := .tuple #[.agg #[.int .i64 3, .int .i64 v, .int .i64 0, .int .i64 0, .string ⟨#[]⟩, .string ⟨#[]⟩, .string ⟨#[]⟩, .slice ka kn kc], .bool q]) (by simp [results, Tryd.results10, go_sem, y0, y1, y2, y3, y4, y5, y6, y7]) rfl ?_
              exact ⟨crA v fs, ka, kn, kc, q, rfl, (unhide RES).1, (unhide RES).2.2, (unhide RES).2.1⟩
        · have hI : (decide ((2 : Int) ≤ (n : Int)) && decide ((n : Int) ≤ 3)) = false := by
            rw [Bool.and_eq_false_iff]
            by_cases h : (n : Int) < 2
            · exact .inl (decide_eq_false (by omega))
            · exact .inr (decide_eq_false (by omega))
          have IN2 := hide (show Calls Tryd.prog 18 #[.int .i64 (n : Int), .int .i64 2, .int .i64 3] w3 fun e w' => e = .returned (.bool false) ∧ w' = w3 from by rw [← hI]; exact unhide IN)
          clear IN hI
          have run := run_storeAl (unhide KW3) noAl none 0 0
          have kk := hide (sv8_heap (unhide KW3) (.int .i64 0) (.int .i64 0) (.int .i64 0) (.int .i64 0) (.string ⟨#[]⟩) (.string ⟨#[]⟩) (.string ⟨#[]⟩) (.slice none 0 0))
          have RES := hide (And.intro (ac_none (unhide TX) (unhide HL0) (fun _ => by rw [hx]; exact ⟨by decide, by decide⟩) (fun q1 q2 => by have := unhide LN; omega)) (And.intro (sv8_below (unhide BW3) (Nat.le_refl w.heap.size) (.int .i64 0) (.int .i64 0) (.int .i64 0) (.int .i64 0) (.string ⟨#[]⟩) (.string ⟨#[]⟩) (.string ⟨#[]⟩) (.slice none 0 0)) (keep_nil w3 w.heap.size)))
          unfold sv8d noAl at run
          simp only at run
          clear hl1 hn2 hn3 RW hbb KW3 BW3 R3 LN SZ TX HL0 hx
          go_wp2_with (first | (go_at_call 18; refine (unhide IN2).mono ?_; rintro e w9 ⟨rfl, rfl⟩) | (refine al_wpStore rfl (.tmp 2) (.tmp 102) 26 rfl _ _ _ (by simp [Act.eval]) (by simp [Act.eval]) run ?_))
          generalize sv8 _ w.heap.size (.int .i64 0) (.int .i64 0) (.int .i64 0) (.int .i64 0) (.string ⟨#[]⟩) (.string ⟨#[]⟩) (.string ⟨#[]⟩) (.slice none 0 0) = u at *
          have y0 := (heap_at (unhide kk) 0).1
          have y1 := (heap_at (unhide kk) 1).1
          have y2 := (heap_at (unhide kk) 2).1
          have y3 := (heap_at (unhide kk) 3).1
          have y4 := (heap_at (unhide kk) 4).1
          have y5 := (heap_at (unhide kk) 5).1
          have y6 := (heap_at (unhide kk) 6).1
          have y7 := (heap_at (unhide kk) 7).1
          clear run kk
          go_wp2_with fail
          refine bodyPost_ret (v := .tuple #[.agg #[.int .i64 0, .int .i64 0, .int .i64 0, .int .i64 0, .string ⟨#[]⟩, .string ⟨#[]⟩, .string ⟨#[]⟩, .slice none 0 0], .bool false]) (by simp [results, Tryd.results10, go_sem, y0, y1, y2, y3, y4, y5, y6, y7]) rfl ?_
          exact ⟨noAl, none, 0, 0, false, rfl, (unhide RES).1.trans (if_neg (by decide)).symm, keep_nil _ _, (unhide RES).2.1⟩
    · have hcrashB := hide hx
      clear hx
      have g1 : (x.toList == ([115, 121, 110, 99] : List UInt8)) = false := by rw [← syncB_l]; exact al_ne (unhide hsyncB)
      have g2 : (x.toList == ([99, 108, 101, 97, 110] : List UInt8)) = false := by rw [← cleanB_l]; exact al_ne (unhide hcleanB)
      have g3 : (x.toList == ([99, 114, 97, 115, 104] : List UInt8)) = false := by rw [← crashB_l]; exact al_ne (unhide hcrashB)
      have run := run_storeAl (unhide KW3) noAl none 0 0
      have kk := hide (sv8_heap (unhide KW3) (.int .i64 0) (.int .i64 0) (.int .i64 0) (.int .i64 0) (.string ⟨#[]⟩) (.string ⟨#[]⟩) (.string ⟨#[]⟩) (.slice none 0 0))
      have RES := hide (And.intro (ac_none (unhide TX) (unhide HL0) (fun _ => ⟨unhide hsyncB, unhide hcleanB⟩) (fun _ _ => unhide hcrashB)) (And.intro (sv8_below (unhide BW3) (Nat.le_refl w.heap.size) (.int .i64 0) (.int .i64 0) (.int .i64 0) (.int .i64 0) (.string ⟨#[]⟩) (.string ⟨#[]⟩) (.string ⟨#[]⟩) (.slice none 0 0)) (keep_nil w3 w.heap.size)))
      unfold sv8d noAl at run
      simp only at run
      clear KW3 BW3 R3 LN SZ TX HL0
      go_wp2_with (first | (refine al_wpStore rfl (.tmp 2) (.tmp 102) 26 rfl _ _ _ (by simp [Act.eval]) (by simp [Act.eval]) run ?_))
      generalize sv8 _ w.heap.size (.int .i64 0) (.int .i64 0) (.int .i64 0) (.int .i64 0) (.string ⟨#[]⟩) (.string ⟨#[]⟩) (.string ⟨#[]⟩) (.slice none 0 0) = u at *
      have y0 := (heap_at (unhide kk) 0).1
      have y1 := (heap_at (unhide kk) 1).1
      have y2 := (heap_at (unhide kk) 2).1
      have y3 := (heap_at (unhide kk) 3).1
      have y4 := (heap_at (unhide kk) 4).1
      have y5 := (heap_at (unhide kk) 5).1
      have y6 := (heap_at (unhide kk) 6).1
      have y7 := (heap_at (unhide kk) 7).1
      clear run kk
      go_wp2_with fail
      refine bodyPost_ret (v := .tuple #[.agg #[.int .i64 0, .int .i64 0, .int .i64 0, .int .i64 0, .string ⟨#[]⟩, .string ⟨#[]⟩, .string ⟨#[]⟩, .slice none 0 0], .bool false]) (by simp [results, Tryd.results10, go_sem, y0, y1, y2, y3, y4, y5, y6, y7]) rfl ?_
      exact ⟨noAl, none, 0, 0, false, rfl, (unhide RES).1.trans (if_neg (by decide)).symm, keep_nil _ _, (unhide RES).2.1⟩

end Go.Proofs.YtmogcfiioajaeaaDoor
