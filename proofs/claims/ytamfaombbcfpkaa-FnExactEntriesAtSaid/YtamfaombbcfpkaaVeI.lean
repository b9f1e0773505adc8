/-
  impl.entriesSeen: the entries of those keys that a view shows.
-/
import Derived.Test.YtamfaombbcfpkaaVeS
import Derived.Test.YtamfaombbcfpkaaVeK
namespace Go.Proofs.Ytamfaombbcfpkaa
open Go.RowKit Go.Maps

/-- A slice of texts as it reads. -/
def SRow (w : World) (a : Option Addr) (n : Nat) (ks : List ByteArray) : Prop :=
  ks.length = n ∧ ∀ i (hi : i < ks.length), ∃ b off, a = some ⟨b, off, none⟩ ∧ w.cell? ⟨b, off + i, none⟩ = some (.string ks[i])
theorem SRow.below {w w' : World} {a : Option Addr} {n : Nat} {ks : List ByteArray} (h : SRow w a n ks) (hb : Below w.heap.size w w') : SRow w' a n ks := by
  refine ⟨h.1, fun i hi => ?_⟩
  obtain ⟨b, off, e, c⟩ := h.2 i hi
  exact ⟨b, off, e, (hb.cell (p := ⟨b, off + i, none⟩) (cell_lt c)).trans c⟩
theorem srow_of_owns {w : World} {B : Nat} {v : Value} {ks : List ByteArray} (h : SOwns w B v ks) : ∃ a c, v = .slice a ks.length c ∧ SRow w a ks.length ks := by
  have h' := h
  rcases h.2 with ⟨rfl, h0⟩ | ⟨g, cap, cur, rfl, _⟩
  · exact ⟨none, 0, by rw [h0], rfl, fun i hi => absurd hi (by omega)⟩
  · refine ⟨_, cap, rfl, rfl, fun i hi => ⟨g, 0, rfl, ?_⟩⟩
    rw [Nat.zero_add, h'.cellAt i (by omega)]
    simp [hi]
/-- What a view gives. -/
def VwGives (o : Option VerD) (w : World) (e : Ending) (w' : World) : Prop :=
  (∃ x, e = .returned (.tuple #[vv x, .bool false]) ∧ o = none ∧ Below w.heap.size w w') ∨ ∃ x, e = .returned (.tuple #[vv x, .bool true]) ∧ o = some x ∧ Below w.heap.size w w'
theorem vw_gives {ds : List VerD} {k : ByteArray} {t : Int} {w w' : World} {e : Ending} (h : VwRes ds k t w e w') : VwGives (verAt ds k t) w e w' := h
/-- The entry of a key that is seen. -/
def seeK (k : ByteArray) : Option VerD → List KvD
  | some x => [⟨k, x.v⟩]
  | none => []
theorem seeK_len (k : ByteArray) (o : Option VerD) : (seeK k o).length ≤ 1 := by cases o <;> simp [seeK]
def seenL (see : ByteArray → Option VerD) (ks : List ByteArray) : List KvD := ks.flatMap fun k => seeK k (see k)
theorem seenL_len (see : ByteArray → Option VerD) : ∀ ks : List ByteArray, (seenL see ks).length ≤ ks.length
  | [] => by simp [seenL]
  | k :: r => by
    have h1 := seenL_len see r
    have h2 := seeK_len k (see k)
    simp only [seenL, List.flatMap_cons, List.length_append, List.length_cons] at *
    omega
theorem seenL_snoc (see : ByteArray → Option VerD) (ks : List ByteArray) (k : ByteArray) : seenL see (ks ++ [k]) = seenL see ks ++ seeK k (see k) := by simp [seenL]
set_option maxRecDepth 100000 in
set_option maxHeartbeats 4000000 in
theorem entriesSeen_any (a : Option Addr) (n c : Nat) (ks : List ByteArray) (p q : Option Addr) (see : ByteArray → Option VerD) (w : World) (hn : n ≤ 100000) (hr : SRow w a n ks)
    (hS : ∀ k ∈ ks, ∀ u, Below w.heap.size w u → Calls Try.prog 32 #[.string k, .pointer p, .pointer q] u fun e u' => VwGives (see k) u e u') :
    Calls Try.prog 19 #[.slice a n c, .func (.func 32) #[] #[.pointer p, .pointer q]] w fun e w' => ∃ v, e = .returned v ∧ KOwns w' w.heap.size v (seenL see ks) ∧ Below w.heap.size w w' := by
  have LN := hide hr.1
  have R := hide hr
  have SS := hide hS
  have H0 := hide (show KOwns w w.heap.size (.slice none 0 0) [] from World.ownsRow_nil _ _ _ _)
  clear hr hS
  go_enter Try.func19, Try.ntmps19
  go_wp2_with fail
  go_loopw [5, 12] (fun o' i wr => ∃ (j : Nat) (o : Value), o' = o ∧ i = .int .i64 (j : Int) ∧ j ≤ n ∧ Hid (KOwns wr w.heap.size o (seenL see (ks.take j))) ∧ Hid (Below w.heap.size w wr)) (fun _ i _ => n - (intOf i).toNat)
  case atStart => exact ⟨0, _, rfl, rfl, Nat.zero_le _, unhide H0, Below.refl _ _⟩
  case round =>
    clear H0
    obtain ⟨j, o, rfl, rfl, hj, hH, hB⟩ := hrel
    by_cases hlt : j < n
    · have hj2 : j < ks.length := by rw [unhide LN]; exact hlt
      obtain ⟨b, off, rfl, d0⟩ := ((unhide R).below (unhide hB)).2 j hj2
      have CL := hide (unhide SS ks[j] (List.getElem_mem hj2) wr (unhide hB))
      have ZS := hide (show seenL see (ks.take (j + 1)) = seenL see (ks.take j) ++ seeK ks[j] (see ks[j]) by rw [rb_take_snoc ks j hj2, seenL_snoc])
      have hel : (seenL see (ks.take j)).length ≤ j := Nat.le_trans (seenL_len see _) (by rw [List.length_take]; omega)
      generalize ks[j] = pk at *
      clear SS R
      go_wp2_with fail
      refine (unhide CL).mono ?_
      intro e w2 hv
      rcases hv with ⟨x, rfl, hva, hb1⟩ | ⟨x, rfl, hva, hb1⟩
      · have Z := hide (show seenL see (ks.take (j + 1)) = seenL see (ks.take j) by rw [unhide ZS, hva]; simp [seeK])
        obtain ⟨xk, xt, xv, xg⟩ := x
        unfold vv
        have hb3 := hb1.trans (((Below.refl _ _).alloc (Nat.le_refl _) (.cells #[.string xk, .int .i64 xt, .string xv, .bool xg] 39)).mono hb1.size)
        have HN := hide (kowns_below (unhide hH) hb3)
        have BN := hide ((unhide hB).trans (hb3.mono (unhide hB).size))
        clear hb1 hb3 hva ZS CL hH
        go_wp2_with fail
        go_roundw
        case rel => exact ⟨j + 1, _, rfl, by go_num, by omega, by rw [unhide Z]; exact unhide HN, unhide BN⟩
        case measure => simp [intOf]; omega
      · have Z := hide (show seenL see (ks.take (j + 1)) = seenL see (ks.take j) ++ [⟨pk, x.v⟩] by rw [unhide ZS, hva]; simp [seeK])
        obtain ⟨xk, xt, xv, xg⟩ := x
        simp only at Z
        unfold vv
        have hb3 := hb1.trans (((Below.refl _ _).alloc (Nat.le_refl _) (.cells #[.string xk, .int .i64 xt, .string xv, .bool xg] 39)).mono hb1.size)
        have HN := kowns_below (unhide hH) hb3
        have BN := (unhide hB).trans (hb3.mono (unhide hB).size)
        clear hb1 hb3 hva ZS CL hH
        have KX := heap_alloc_new w2 (.cells #[.string xk, .int .i64 xt, .string xv, .bool xg] 39)
        have x2 : (w2.alloc (.cells #[.string xk, .int .i64 xt, .string xv, .bool xg] 39)).cell? ⟨w2.heap.size, 2, none⟩ = some (.string xv) := (heap_at KX 2).1
        clear KX
        go_upto_region 7 with fail
        generalize (w2.alloc (.cells #[.string xk, .int .i64 xt, .string xv, .bool xg] 39)) = W3 at *
        generalize w2.heap.size = bx at *
        obtain ⟨v', w', hr', ho', hg'⟩ := ky_app (d := ⟨pk, xv⟩) HN (by omega) BN.size
        have BF := hide (((BN.alloc BN.size _)).grown hg' (by have := BN.size; simp; omega) (fun k hk => (HN.lt k hk).1))
        have HF := hide (show KOwns w' w.heap.size v' (seenL see (ks.take (j + 1))) by rw [unhide Z]; exact ho')
        clear HN BN Z ho' hg'
        simp only at hr'
        go_wp2_with (at_builtin; refine ky_wpApp rfl (.tmp 23) (.tmp 28) 24 rfl _ _ _ w' rfl rfl hr' ?_)
        go_roundw
        case rel => exact ⟨j + 1, _, rfl, by go_num, by omega, unhide HF, unhide BF⟩
        case measure => simp [intOf]; omega
    · obtain rfl : j = n := by omega
      have Z := hide (show KOwns wr w.heap.size u5 (seenL see ks) by
        have := unhide hH
        rwa [List.take_of_length_le (by rw [unhide LN]; exact Nat.le_refl _)] at this)
      go_wp2_with fail
      go_ret
      exact ⟨_, rfl, unhide Z, unhide hB⟩
end Go.Proofs.Ytamfaombbcfpkaa
