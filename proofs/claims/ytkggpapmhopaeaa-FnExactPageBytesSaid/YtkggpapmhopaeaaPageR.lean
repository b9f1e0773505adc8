/-
  spec.Bounds; l04Find, spec.Find; impl.Find.
-/
import Derived.Test.YtkggpapmhopaeaaLkE
import Derived.Test.YtkggpapmhopaeaaPageQ
namespace Go.Proofs.Ytkggpapmhopaeaa
open Go.RowKit

/-- What Bounds answers. -/
def boundsV (lo hi : ByteArray) (r : Int) (es : List EntD) (ds : List DelD) : Value := if okPage lo hi r es ds = true then .tuple #[.string (highE hi ds), .int .i64 (rightE r ds), .int .i64 0] else .tuple #[.string ByteArray.empty, .int .i64 0, .int .i64 1]
set_option maxRecDepth 100000 in
set_option maxHeartbeats 2000000 in
theorem specBounds_any (lo hi : ByteArray) (r : Int) (ab : Option Addr) (nb cb : Nat) (es : List EntD) (ac : Option Addr) (nc cc : Nat) (ds : List DelD) (w : World) (hE : ERow w ab nb es) (hD : DRow w ac nc ds) (hcb : ab = none → cb = 0) :
    Calls Try.prog 14 #[pgv lo hi r ab nb cb ac nc cc] w fun e w' => e = .returned (boundsV lo hi r es ds) ∧ Below w.heap.size w w' := by
  have b0 : Below w.heap.size w (w.alloc (.cells #[.string lo, .string hi, .int .i64 r, .slice ab nb cb, .slice ac nc cc] 31)) := (Below.refl _ _).alloc (Nat.le_refl _) _
  have RE := hide (hE.below b0)
  have RD := hide (hD.below b0)
  have k0 := hide (heap_alloc_new w (.cells #[.string lo, .string hi, .int .i64 r, .slice ab nb cb, .slice ac nc cc] 31))
  have z0 : (w.alloc (.cells #[.string lo, .string hi, .int .i64 r, .slice ab nb cb, .slice ac nc cc] 31)).heap.size = w.heap.size + 1 := by simp
  clear hE hD
  go_enter Try.func14, Try.ntmps14
  go_wp2_with fail
  generalize w.alloc (.cells #[.string lo, .string hi, .int .i64 r, .slice ab nb cb, .slice ac nc cc] 31) = W0 at *
  refine (specPageOK_any lo hi r ab nb cb es ac nc cc ds W0 (unhide RE) (unhide RD) hcb).mono ?_
  rintro e w1 ⟨rfl, hb1⟩
  have k1 := hide ((hb1.block w.heap.size (by omega)).trans (unhide k0))
  have B1 := hide (b0.trans (hb1.mono b0.size))
  have RD1 := hide ((unhide RD).below hb1)
  clear b0 hb1 RE RD k0
  by_cases hok : okPage lo hi r es ds = true
  · have E := hide (show Value.tuple #[.string (highE hi ds), .int .i64 (rightE r ds), .int .i64 0] = boundsV lo hi r es ds by unfold boundsV; rw [if_pos hok])
    rw [hok]
    have p0 : w1.cell? ⟨w.heap.size, 0, none⟩ = some (.string lo) := heap_cell2 (unhide k1) 0
    have p1 : w1.cell? ⟨w.heap.size, 1, none⟩ = some (.string hi) := heap_cell2 (unhide k1) 1
    have p2 : w1.cell? ⟨w.heap.size, 2, none⟩ = some (.int .i64 r) := heap_cell2 (unhide k1) 2
    have p3 : w1.cell? ⟨w.heap.size, 3, none⟩ = some (.slice ab nb cb) := heap_cell2 (unhide k1) 3
    have p4 : w1.cell? ⟨w.heap.size, 4, none⟩ = some (.slice ac nc cc) := heap_cell2 (unhide k1) 4
    have hds : ds.length ≤ 12 := by unfold okPage at hok; simp at hok; omega
    have hn : nc ≤ 100000 := by have := (unhide RD1).1; omega
    clear hok
    go_wp2_with fail
    refine (l04Bounds_any lo hi r (.slice ab nb cb) ac nc cc ds w1 (unhide RD1) hn).mono ?_
    rintro e w2 ⟨rfl, hb2⟩
    have B2 := hide ((unhide B1).trans (hb2.mono (unhide B1).size))
    clear hb2 p0 p1 p2 p3 p4
    go_wp2_with fail
    go_ret3
    exact ⟨congrArg Ending.returned (unhide E), unhide B2⟩
  · have E := hide (show Value.tuple #[.string ByteArray.empty, .int .i64 0, .int .i64 1] = boundsV lo hi r es ds by unfold boundsV; rw [if_neg hok])
    have hok : okPage lo hi r es ds = false := by simpa using hok
    rw [hok]
    go_wp2_with fail
    go_ret3
    exact ⟨congrArg Ending.returned (unhide E), unhide B1⟩
def lookV : Option ByteArray → Value
  | some v => .tuple #[.string v, .int .i64 0, .int .i64 0]
  | none => .tuple #[.string ByteArray.empty, .int .i64 0, .int .i64 5]
/-- What Find answers of a right page. -/
def findV (lo hi : ByteArray) (r : Int) (es : List EntD) (ds : List DelD) (k : ByteArray) : Value :=
  if ltK k lo = true then .tuple #[.string ByteArray.empty, .int .i64 0, .int .i64 4]
  else if underK k (highE hi ds) = false then .tuple #[.string ByteArray.empty, .int .i64 (rightE r ds), .int .i64 12]
  else lookV (lookE (entsE es ds) k)
set_option maxRecDepth 100000 in
set_option maxHeartbeats 4000000 in
theorem l04Find_any (lo hi : ByteArray) (r : Int) (ab : Option Addr) (nb cb : Nat) (es : List EntD) (ac : Option Addr) (nc cc : Nat) (ds : List DelD) (k : ByteArray) (w : World) (hE : ERow w ab nb es) (hD : DRow w ac nc ds) (hnb : nb ≤ 100) (hnc : nc ≤ 100) (hcb : ab = none → cb = 0) :
    Calls Try.prog 44 #[pgv lo hi r ab nb cb ac nc cc, .string k] w fun e w' => e = .returned (findV lo hi r es ds k) ∧ Below w.heap.size w w' := by
  have b0 : Below w.heap.size w (w.alloc (.cells #[.string lo, .string hi, .int .i64 r, .slice ab nb cb, .slice ac nc cc] 31)) := (Below.refl _ _).alloc (Nat.le_refl _) _
  have RE := hide (hE.below b0)
  have RD := hide (hD.below b0)
  have LE := hide hE.1
  have LD := hide hD.1
  have k0 := hide (heap_alloc_new w (.cells #[.string lo, .string hi, .int .i64 r, .slice ab nb cb, .slice ac nc cc] 31))
  have z0 : (w.alloc (.cells #[.string lo, .string hi, .int .i64 r, .slice ab nb cb, .slice ac nc cc] 31)).heap.size = w.heap.size + 1 := by simp
  clear hE hD
  go_enter Try.func44, Try.ntmps44
  go_wp2_with fail
  generalize w.alloc (.cells #[.string lo, .string hi, .int .i64 r, .slice ab nb cb, .slice ac nc cc] 31) = W0 at *
  refine (l04Bounds_any lo hi r (.slice ab nb cb) ac nc cc ds W0 (unhide RD) (by omega)).mono ?_
  rintro e w1 ⟨rfl, hb1⟩
  have k1 := hide ((hb1.block w.heap.size (by omega)).trans (unhide k0))
  have B1 := hide (b0.trans (hb1.mono b0.size))
  have RD1 := hide ((unhide RD).below hb1)
  have RE1 := hide ((unhide RE).below hb1)
  have hz1 : w.heap.size + 1 ≤ w1.heap.size := by have := hb1.size; omega
  clear b0 hb1 RE RD k0
  have p0 : w1.cell? ⟨w.heap.size, 0, none⟩ = some (.string lo) := heap_cell2 (unhide k1) 0
  have p1 : w1.cell? ⟨w.heap.size, 1, none⟩ = some (.string hi) := heap_cell2 (unhide k1) 1
  have p2 : w1.cell? ⟨w.heap.size, 2, none⟩ = some (.int .i64 r) := heap_cell2 (unhide k1) 2
  have p3 : w1.cell? ⟨w.heap.size, 3, none⟩ = some (.slice ab nb cb) := heap_cell2 (unhide k1) 3
  have p4 : w1.cell? ⟨w.heap.size, 4, none⟩ = some (.slice ac nc cc) := heap_cell2 (unhide k1) 4
  by_cases hl : Op.bytesLess k.toList lo.toList = true
  · have E := hide (show Value.tuple #[.string ByteArray.empty, .int .i64 0, .int .i64 4] = findV lo hi r es ds k by unfold findV ltK; rw [if_pos hl])
    go_wp2_with fail
    go_ret3
    exact ⟨congrArg Ending.returned (unhide E), unhide B1⟩
  · have hl' : Op.bytesLess k.toList lo.toList = false := by simpa using hl
    have hl2 : ¬ ltK k lo = true := hl
    by_cases hu : underK k (highE hi ds) = true
    · have hu2 : ¬ underK k (highE hi ds) = false := by rw [hu]; decide
      have F := hide (show findV lo hi r es ds k = lookV (lookE (entsE es ds) k) by unfold findV; rw [if_neg hl2, if_neg hu2])
      clear hl hl2 hu2
      go_wp2_with (go_at_call 35; refine (l04Under_any k _ _).mono ?_; rintro e w2 ⟨rfl, rfl⟩)
      refine (l04Entries_any lo hi r ab nb cb es ac nc cc ds _ (unhide RE1) (unhide RD1) hnb hnc hcb).mono ?_
      rintro x w3 ⟨g, cap, rfl, hO, hb3⟩
      have B3 := hide ((unhide B1).trans (hb3.mono (unhide B1).size))
      have R3 := hide (erow_of_owns hO)
      have HL := hide (show (entsE es ds).length ≤ 300 by have := entsE_len es ds; have := unhide LE; have := unhide LD; omega)
      clear hO hb3 RE1 RD1 k1 p0 p1 p2 p3 p4
      generalize entsE es ds = xs at *
      obtain ⟨m, hm⟩ : ∃ m, xs.length = m := ⟨_, rfl⟩
      rw [hm] at HL R3 ⊢
      have HM := hide hm
      have hm3 : m ≤ 300 := unhide HL
      clear hm
      go_wp2_with fail
      go_loop [10] (fun i => ∃ t : Nat, i = .int .i64 (t : Int) ∧ t ≤ m ∧ Hid (∀ j (hj : j < xs.length), j < t → (xs[j].k.toList == k.toList) = false)) (fun i => m - (intOf i).toNat)
      case atStart => exact ⟨0, rfl, Nat.zero_le _, fun j _ h => absurd h (Nat.not_lt_zero _)⟩
      case round =>
        obtain ⟨t, rfl, ht, hN⟩ := hrel
        by_cases hlt : t < m
        · have htx : t < xs.length := by have := unhide HM; omega
          obtain ⟨b', off', he, c0, c1⟩ := (unhide R3).2 t htx
          injection he with he
          injection he with he1 he2
          subst he1 he2
          rw [Nat.zero_add] at c0 c1
          by_cases hq : (xs[t].k.toList == k.toList) = true
          · have E := hide (show Value.tuple #[.string xs[t].v, .int .i64 0, .int .i64 0] = findV lo hi r es ds k by rw [unhide F, look_some htx (unhide hN) hq]; rfl)
            clear hN
            generalize xs[t] = xt at *
            go_wp2_with fail
            go_ret3
            exact ⟨congrArg Ending.returned (unhide E), unhide B3⟩
          · have hq' : (xs[t].k.toList == k.toList) = false := by simpa using hq
            have N2 := hide (show ∀ j (hj : j < xs.length), j < t + 1 → (xs[j].k.toList == k.toList) = false from fun j hj h => by
              rcases Nat.lt_or_ge j t with h' | h'
              · exact unhide hN j hj h'
              · obtain rfl : j = t := by omega
                exact hq')
            clear hN hq
            generalize xs[t] = xt at *
            go_wp2_with fail
            go_round
            case rel => exact ⟨t + 1, by go_num, by omega, unhide N2⟩
            case measure => simp [intOf]; omega
        · obtain rfl : t = m := by omega
          have E := hide (show Value.tuple #[.string ByteArray.empty, .int .i64 0, .int .i64 5] = findV lo hi r es ds k by rw [unhide F, look_none (fun i hi' => unhide hN i hi' (by have := unhide HM; omega))]; rfl)
          go_wp2_with fail
          go_ret3
          exact ⟨congrArg Ending.returned (unhide E), unhide B3⟩
    · have hu' : underK k (highE hi ds) = false := by simpa using hu
      have E := hide (show Value.tuple #[.string ByteArray.empty, .int .i64 (rightE r ds), .int .i64 12] = findV lo hi r es ds k by unfold findV; rw [if_neg hl2, if_pos hu'])
      go_wp2_with (go_at_call 35; refine (l04Under_any k _ _).mono ?_; rintro e w2 ⟨rfl, rfl⟩)
      go_ret3
      exact ⟨congrArg Ending.returned (unhide E), unhide B1⟩
theorem ok_len {lo hi : ByteArray} {r : Int} {es : List EntD} {ds : List DelD} (h : okPage lo hi r es ds = true) : es.length ≤ 32 ∧ ds.length ≤ 12 ∧ (entsE es ds).length ≤ 32 := by
  unfold okPage at h
  simp at h
  omega
/-- What Find answers. -/
def findA (lo hi : ByteArray) (r : Int) (es : List EntD) (ds : List DelD) (k : ByteArray) : Value :=
  if 65536 < k.size then .tuple #[.string ByteArray.empty, .int .i64 0, .int .i64 2]
  else if okPage lo hi r es ds = true ∧ keyK k = true then findV lo hi r es ds k
  else .tuple #[.string ByteArray.empty, .int .i64 0, .int .i64 1]
set_option maxRecDepth 100000 in
set_option maxHeartbeats 4000000 in
theorem specFind_any (lo hi : ByteArray) (r : Int) (ab : Option Addr) (nb cb : Nat) (es : List EntD) (ac : Option Addr) (nc cc : Nat) (ds : List DelD) (k : ByteArray) (w : World) (hE : ERow w ab nb es) (hD : DRow w ac nc ds) (hcb : ab = none → cb = 0) :
    Calls Try.prog 16 #[pgv lo hi r ab nb cb ac nc cc, .string k] w fun e w' => e = .returned (findA lo hi r es ds k) ∧ Below w.heap.size w w' := by
  have b0 : Below w.heap.size w (w.alloc (.cells #[.string lo, .string hi, .int .i64 r, .slice ab nb cb, .slice ac nc cc] 31)) := (Below.refl _ _).alloc (Nat.le_refl _) _
  have RE := hide (hE.below b0)
  have RD := hide (hD.below b0)
  have LE := hide hE.1
  have LD := hide hD.1
  have k0 := hide (heap_alloc_new w (.cells #[.string lo, .string hi, .int .i64 r, .slice ab nb cb, .slice ac nc cc] 31))
  have z0 : (w.alloc (.cells #[.string lo, .string hi, .int .i64 r, .slice ab nb cb, .slice ac nc cc] 31)).heap.size = w.heap.size + 1 := by simp
  clear hE hD
  by_cases hk : 65536 < k.size
  · have E := hide (show Value.tuple #[.string ByteArray.empty, .int .i64 0, .int .i64 2] = findA lo hi r es ds k by unfold findA; rw [if_pos hk])
    go_enter Try.func16, Try.ntmps16
    go_wp2_with fail
    go_ret3
    exact ⟨congrArg Ending.returned (unhide E), b0⟩
  have FA := hide (show findA lo hi r es ds k = if okPage lo hi r es ds = true ∧ keyK k = true then findV lo hi r es ds k else .tuple #[.string ByteArray.empty, .int .i64 0, .int .i64 1] by unfold findA; rw [if_neg hk])
  go_enter Try.func16, Try.ntmps16
  go_wp2_with fail
  generalize w.alloc (.cells #[.string lo, .string hi, .int .i64 r, .slice ab nb cb, .slice ac nc cc] 31) = W0 at *
  refine (specPageOK_any lo hi r ab nb cb es ac nc cc ds W0 (unhide RE) (unhide RD) hcb).mono ?_
  rintro e w1 ⟨rfl, hb1⟩
  have k1 := hide ((hb1.block w.heap.size (by omega)).trans (unhide k0))
  have B1 := hide (b0.trans (hb1.mono b0.size))
  have RD1 := hide ((unhide RD).below hb1)
  have RE1 := hide ((unhide RE).below hb1)
  clear b0 hb1 RE RD k0
  have p0 : w1.cell? ⟨w.heap.size, 0, none⟩ = some (.string lo) := heap_cell2 (unhide k1) 0
  have p1 : w1.cell? ⟨w.heap.size, 1, none⟩ = some (.string hi) := heap_cell2 (unhide k1) 1
  have p2 : w1.cell? ⟨w.heap.size, 2, none⟩ = some (.int .i64 r) := heap_cell2 (unhide k1) 2
  have p3 : w1.cell? ⟨w.heap.size, 3, none⟩ = some (.slice ab nb cb) := heap_cell2 (unhide k1) 3
  have p4 : w1.cell? ⟨w.heap.size, 4, none⟩ = some (.slice ac nc cc) := heap_cell2 (unhide k1) 4
  by_cases hok : okPage lo hi r es ds = true
  · by_cases hy : keyK k = true
    · have E := hide (show findV lo hi r es ds k = findA lo hi r es ds k by rw [unhide FA, if_pos ⟨hok, hy⟩])
      have hl := ok_len hok
      have hb : nb ≤ 100 := by have := unhide LE; omega
      have hc : nc ≤ 100 := by have := unhide LD; omega
      rw [hok]
      clear hok hl
      go_wp2_with (go_at_call 34; refine (l04Key_any k _).mono ?_; rintro e w2 ⟨rfl, rfl⟩)
      refine (l04Find_any lo hi r ab nb cb es ac nc cc ds k _ (unhide RE1) (unhide RD1) hb hc hcb).mono ?_
      rintro e w3 ⟨rfl, hb3⟩
      have B3 := hide ((unhide B1).trans (hb3.mono (unhide B1).size))
      clear hb3
      rw [unhide E]
      obtain ⟨v0, v1, v2, hv⟩ : ∃ v0 v1 v2, findA lo hi r es ds k = .tuple #[v0, v1, v2] := by
        unfold findA findV lookV
        repeat' split
        all_goals exact ⟨_, _, _, rfl⟩
      have HV := hide hv
      rw [hv]
      clear hv
      go_wp2_with fail
      go_ret3
      exact ⟨congrArg Ending.returned (unhide HV).symm, unhide B3⟩
    · have E := hide (show Value.tuple #[.string ByteArray.empty, .int .i64 0, .int .i64 1] = findA lo hi r es ds k by rw [unhide FA, if_neg (fun h => hy h.2)])
      have hy : keyK k = false := by simpa using hy
      rw [hok]
      go_wp2_with (go_at_call 34; refine (l04Key_any k _).mono ?_; rintro e w2 ⟨rfl, rfl⟩)
      go_ret3
      exact ⟨congrArg Ending.returned (unhide E), unhide B1⟩
  · have E := hide (show Value.tuple #[.string ByteArray.empty, .int .i64 0, .int .i64 1] = findA lo hi r es ds k by rw [unhide FA, if_neg (fun h => hok h.1)])
    have hok : okPage lo hi r es ds = false := by simpa using hok
    rw [hok]
    go_wp2_with fail
    go_ret3
    exact ⟨congrArg Ending.returned (unhide E), unhide B1⟩
end Go.Proofs.Ytkggpapmhopaeaa
