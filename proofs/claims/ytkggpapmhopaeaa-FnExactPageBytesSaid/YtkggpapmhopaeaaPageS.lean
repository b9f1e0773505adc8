/-
  impl.Find.
-/
import Derived.Test.YtkggpapmhopaeaaLkE
import Derived.Test.YtkggpapmhopaeaaPageR
namespace Go.Proofs.Ytkggpapmhopaeaa
open Go.RowKit

set_option maxRecDepth 100000 in
set_option maxHeartbeats 8000000 in
theorem implFind_any (lo hi : ByteArray) (r : Int) (ab : Option Addr) (nb cb : Nat) (es : List EntD) (ac : Option Addr) (nc cc : Nat) (ds : List DelD) (k : ByteArray) (w : World) (hE : ERow w ab nb es) (hD : DRow w ac nc ds) :
    Calls Try.prog 17 #[pgv lo hi r ab nb cb ac nc cc, .string k] w fun e w' => e = .returned (findA lo hi r es ds k) ∧ Below w.heap.size w w' := by
  have b0 : Below w.heap.size w (w.alloc (.cells #[.string lo, .string hi, .int .i64 r, .slice ab nb cb, .slice ac nc cc] 31)) := (Below.refl _ _).alloc (Nat.le_refl _) _
  have RE := hide (hE.below b0)
  have RD := hide (hD.below b0)
  clear hE hD
  by_cases hk : 65536 < k.size
  · have E := hide (show Value.tuple #[.string ByteArray.empty, .int .i64 0, .int .i64 2] = findA lo hi r es ds k by unfold findA; rw [if_pos hk])
    go_enter Try.func17, Try.ntmps17
    go_wp2_with fail
    go_ret3
    exact ⟨congrArg Ending.returned (unhide E), b0⟩
  have FA := hide (show findA lo hi r es ds k = if okPage lo hi r es ds = true ∧ keyK k = true then findV lo hi r es ds k else .tuple #[.string ByteArray.empty, .int .i64 0, .int .i64 1] by unfold findA; rw [if_neg hk])
  go_enter Try.func17, Try.ntmps17
  go_wp2_with fail
  refine (settle_any lo hi r ab nb cb es ac nc cc ds _ (unhide RE) (unhide RD)).mono ?_
  rintro e w1 ⟨v, b, rfl, ⟨hb, hs⟩, hb1⟩
  have B1 := hide (b0.trans (hb1.mono b0.size))
  clear b0 hb1 RE RD
  cases b with
  | false =>
    have E := hide (show Value.tuple #[.string ByteArray.empty, .int .i64 0, .int .i64 1] = findA lo hi r es ds k by rw [unhide FA, ← hb, if_neg (fun h => by cases h.1)])
    clear hb hs
    go_wp2_with fail
    go_ret3
    exact ⟨congrArg Ending.returned (unhide E), unhide B1⟩
  | true =>
    obtain ⟨sb, a', n', c', rfl, hsb, hS⟩ := hs rfl
    have HS := hide hS
    have OK := hide hb.symm
    clear hs hb hS
    by_cases hy : keyK k = true
    · have FV := hide (show findA lo hi r es ds k = findV lo hi r es ds k by rw [unhide FA, if_pos ⟨unhide OK, hy⟩])
      have c0 := (unhide HS).at_.c0
      have c2 := (unhide HS).at_.c2
      have c3 := (unhide HS).at_.c3
      have hn' : n' ≤ 100 := by have h1 := (unhide HS).len; have h2 := ok_len (unhide OK); omega
      by_cases hl : Op.bytesLess k.toList lo.toList = true
      · have E := hide (show Value.tuple #[.string ByteArray.empty, .int .i64 0, .int .i64 4] = findA lo hi r es ds k by rw [unhide FV]; unfold findV ltK; rw [if_pos hl])
        go_wp2_with (go_at_call 45; refine (keyOK_any k _).mono ?_; rintro e w2 ⟨rfl, hw2⟩; subst w2)
        go_ret3
        exact ⟨congrArg Ending.returned (unhide E), unhide B1⟩
      · have hl' : Op.bytesLess k.toList lo.toList = false := by simpa using hl
        have hl2 : ¬ ltK k lo = true := hl
        by_cases hu : underK k (highE hi ds) = true
        · have hu2 : ¬ underK k (highE hi ds) = false := by rw [hu]; decide
          have hin : inK lo (highE hi ds) k = true := by unfold inK ltK; unfold underK ltK at hu; rw [hl', hu]; rfl
          have F := hide (show findA lo hi r es ds k = lookV (lookE (entsE es ds) k) by rw [unhide FV]; unfold findV; rw [if_neg hl2, if_neg hu2])
          have HC := hide (covers_any sb lo (highE hi ds) (rightE r ds) (.slice a' n' c') k w1 (unhide HS).at_)
          go_wp2_with (first | (go_at_call 45; refine (keyOK_any k _).mono ?_; rintro e w2 ⟨rfl, hw2⟩; subst w2) | (go_at_call 46; refine (unhide HC).mono ?_; rintro e w2 ⟨rfl, qc, hw2⟩; subst w2; rw [hin]))
          replace HS := hide (show Sett (w1.drewN qc) sb lo (highE hi ds) (rightE r ds) a' n' c' (entsE es ds) from ⟨(unhide HS).at_, (unhide HS).own, (unhide HS).rise⟩)
          replace B1 := hide (bel_drewN (unhide B1) qc)
          refine (searchEntry_any a' n' c' (entsE es ds) k (w1.drewN qc) (erow_of_owns (unhide HS).own) (unhide HS).rise (by omega)).mono ?_
          rintro e w3 ⟨rfl, hb3⟩
          have S3 := hide ((unhide HS).step hb3)
          have B3 := hide ((unhide B1).trans (hb3.mono (unhide B1).size))
          have d3 := (unhide S3).at_.c3
          clear hb3 HS c0 c2 c3 HC
          by_cases hf : found (entsE es ds) k = true
          · obtain ⟨hp, _⟩ := found_in hf
            have E := hide (show Value.tuple #[.string (entsE es ds)[pos (entsE es ds) k].v, .int .i64 0, .int .i64 0] = findA lo hi r es ds k by rw [unhide F, (look_rise (unhide S3).rise).1 hf hp]; rfl)
            obtain ⟨b', off', he, x0, x1⟩ := (erow_of_owns (unhide S3).own).2 _ hp
            subst he
            have hpn : pos (entsE es ds) k < n' := by rw [(unhide S3).len]; exact hp
            rw [hf]
            generalize (entsE es ds)[pos (entsE es ds) k] = xt at *
            generalize pos (entsE es ds) k = tp at *
            clear hf
            go_wp2_with fail
            first | (go_quiet (fail); go_wp2_with fail) | skip
            go_ret3
            exact ⟨congrArg Ending.returned (unhide E), by first | exact unhide B3 | exact bel_drewN (unhide B3) _⟩
          · have hf : found (entsE es ds) k = false := by simpa using hf
            have E := hide (show Value.tuple #[.string ByteArray.empty, .int .i64 0, .int .i64 5] = findA lo hi r es ds k by rw [unhide F, (look_rise (unhide S3).rise).2 hf]; rfl)
            rw [hf]
            go_wp2_with fail
            go_ret3
            exact ⟨congrArg Ending.returned (unhide E), unhide B3⟩
        · have hu' : underK k (highE hi ds) = false := by simpa using hu
          have hin : inK lo (highE hi ds) k = false := by unfold inK ltK; unfold underK ltK at hu'; rw [hl', hu']; rfl
          have E := hide (show Value.tuple #[.string ByteArray.empty, .int .i64 (rightE r ds), .int .i64 12] = findA lo hi r es ds k by rw [unhide FV]; unfold findV; rw [if_neg hl2, if_pos hu'])
          have HC := hide (covers_any sb lo (highE hi ds) (rightE r ds) (.slice a' n' c') k w1 (unhide HS).at_)
          go_wp2_with (first | (go_at_call 45; refine (keyOK_any k _).mono ?_; rintro e w2 ⟨rfl, hw2⟩; subst w2) | (go_at_call 46; refine (unhide HC).mono ?_; rintro e w2 ⟨rfl, qc, hw2⟩; subst w2; rw [hin]))
          first | (go_quiet (fail); go_wp2_with fail) | skip
          go_ret3
          exact ⟨congrArg Ending.returned (unhide E), by first | exact bel_drewN (unhide B1) _ | exact bel_drewN (bel_drewN (unhide B1) _) _⟩
    · have E := hide (show Value.tuple #[.string ByteArray.empty, .int .i64 0, .int .i64 1] = findA lo hi r es ds k by rw [unhide FA, if_neg (fun h => hy h.2)])
      have hy : keyK k = false := by simpa using hy
      go_wp2_with (go_at_call 45; refine (keyOK_any k _).mono ?_; rintro e w2 ⟨rfl, hw2⟩; subst w2)
      go_ret3
      exact ⟨congrArg Ending.returned (unhide E), unhide B1⟩
end Go.Proofs.Ytkggpapmhopaeaa
