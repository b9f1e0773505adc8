/-
  The act that words tell.
-/
import Derived.Test.YtmogcfiioajaeaaDoorAlF
namespace Go.Proofs.YtmogcfiioajaeaaDoor
open Go.RowKit

def cmdI (x : ByteArray) (r : List ByteArray) : Option (AlD × List ByteArray) := (if x = ⟨#[99, 114, 97, 115, 104]⟩ then crashI r else (if x = ⟨#[99, 108, 101, 97, 110]⟩ then some (onA 4, r) else (if x = ⟨#[115, 121, 110, 99]⟩ then some (onA 2, r) else (if x = ⟨#[115, 99, 97, 110]⟩ then scanI r else (if x = ⟨#[100, 114, 111, 112]⟩ then keyI 5 r else (if x = ⟨#[112, 117, 116]⟩ then putI r else (if x = ⟨#[103, 101, 116]⟩ then keyI 2 r else (if x = ⟨#[97, 98, 111, 114, 116]⟩ then txI 7 r else (if x = ⟨#[99, 111, 109, 109, 105, 116]⟩ then txI 6 r else (if x = ⟨#[98, 101, 103, 105, 110]⟩ then txI 1 r else none))))))))))
/-- What the reader's act comes to. -/
def actI : List ByteArray → Option (AlD × List ByteArray)
  | [] => none
  | x :: r => cmdI x r
theorem cmd_fn (x : ByteArray) : (cmdF x = none ∧ ∀ r, cmdI x r = none) ∨ ∃ n, cmdF x = some (.func (.func n) #[] #[]) ∧ (∀ args w, (callFunc n args).run Tryd.prog w = .ok (.enter n args) w) ∧ ∀ (R : Nat) (r : List ByteArray) (w : World), RdW w R r → LibW w → 8 ≤ R → Calls Tryd.prog n #[.pointer (some ⟨R, 0, none⟩)] w fun e w' => ActR R (cmdI x r) w e w' := by
  unfold cmdF cmdI
  by_cases h40 : x = ⟨#[99, 114, 97, 115, 104]⟩
  · right
    refine ⟨40, by rw [if_pos h40]; rfl, fun args w => ?_, fun R r w h hL hR => ?_⟩
    · go_simp
    · rw [if_pos h40]
      exact crash_any R r w h hL hR
  simp only [h40, if_false]
  by_cases h39 : x = ⟨#[99, 108, 101, 97, 110]⟩
  · right
    refine ⟨39, by rw [if_pos h39]; rfl, fun args w => ?_, fun R r w h hL hR => ?_⟩
    · go_simp
    · rw [if_pos h39]
      exact (clean_any R r w h).mono fun _ _ q => q.act
  simp only [h39, if_false]
  by_cases h38 : x = ⟨#[115, 121, 110, 99]⟩
  · right
    refine ⟨38, by rw [if_pos h38]; rfl, fun args w => ?_, fun R r w h hL hR => ?_⟩
    · go_simp
    · rw [if_pos h38]
      exact (sync_any R r w h).mono fun _ _ q => q.act
  simp only [h38, if_false]
  by_cases h37 : x = ⟨#[115, 99, 97, 110]⟩
  · right
    refine ⟨37, by rw [if_pos h37]; rfl, fun args w => ?_, fun R r w h hL hR => ?_⟩
    · go_simp
    · rw [if_pos h37]
      exact (scan_any R r w h hL hR).mono fun _ _ q => q.act
  simp only [h37, if_false]
  by_cases h36 : x = ⟨#[100, 114, 111, 112]⟩
  · right
    refine ⟨36, by rw [if_pos h36]; rfl, fun args w => ?_, fun R r w h hL hR => ?_⟩
    · go_simp
    · rw [if_pos h36]
      exact (drop_any R r w h hL hR).mono fun _ _ q => q.act
  simp only [h36, if_false]
  by_cases h35 : x = ⟨#[112, 117, 116]⟩
  · right
    refine ⟨35, by rw [if_pos h35]; rfl, fun args w => ?_, fun R r w h hL hR => ?_⟩
    · go_simp
    · rw [if_pos h35]
      exact (put_any R r w h hL hR).mono fun _ _ q => q.act
  simp only [h35, if_false]
  by_cases h34 : x = ⟨#[103, 101, 116]⟩
  · right
    refine ⟨34, by rw [if_pos h34]; rfl, fun args w => ?_, fun R r w h hL hR => ?_⟩
    · go_simp
    · rw [if_pos h34]
      exact (get_any R r w h hL hR).mono fun _ _ q => q.act
  simp only [h34, if_false]
  by_cases h33 : x = ⟨#[97, 98, 111, 114, 116]⟩
  · right
    refine ⟨33, by rw [if_pos h33]; rfl, fun args w => ?_, fun R r w h hL hR => ?_⟩
    · go_simp
    · rw [if_pos h33]
      exact (abort_any R r w h hL hR).mono fun _ _ q => q.act
  simp only [h33, if_false]
  by_cases h32 : x = ⟨#[99, 111, 109, 109, 105, 116]⟩
  · right
    refine ⟨32, by rw [if_pos h32]; rfl, fun args w => ?_, fun R r w h hL hR => ?_⟩
    · go_simp
    · rw [if_pos h32]
      exact (commit_any R r w h hL hR).mono fun _ _ q => q.act
  simp only [h32, if_false]
  by_cases h31 : x = ⟨#[98, 101, 103, 105, 110]⟩
  · right
    refine ⟨31, by rw [if_pos h31]; rfl, fun args w => ?_, fun R r w h hL hR => ?_⟩
    · go_simp
    · rw [if_pos h31]
      exact (begin_any R r w h hL hR).mono fun _ _ q => q.act
  simp only [h31, if_false]
  exact .inl ⟨trivial, fun _ => trivial⟩
set_option maxRecDepth 100000 in
set_option maxHeartbeats 4000000 in
theorem act_any (R : Nat) (L : List ByteArray) (w : World) (h : RdW w R L) (hL : LibW w) (hR : 8 ≤ R) :
    Calls Tryd.prog 21 #[.pointer (some ⟨R, 0, none⟩)] w fun e w' => ActR R (actI L) w e w' := by
  have hlt := hide h.lt
  have hszx := hide (show ∀ x r, L = x :: r → x.size ≤ 65536 from fun x r e => by
    obtain ⟨_, _, _, _, _, _, _, _, hz⟩ := h
    exact hz x (by rw [e]; exact List.mem_cons_self))
  obtain ⟨W, hW⟩ : ∃ W, W = w.alloc (.cells #[.int .i64 0, .int .i64 0, .int .i64 0, .int .i64 0, .string ⟨#[]⟩, .string ⟨#[]⟩, .string ⟨#[]⟩, .slice none 0 0] 26) := ⟨_, rfl⟩
  have bW : Below w.heap.size w W := by rw [hW]; exact (Below.refl _ _).alloc (Nat.le_refl _) _
  have KW := hide (show W.heap[w.heap.size]? = some (.cells #[.int .i64 0, .int .i64 0, .int .i64 0, .int .i64 0, .string ⟨#[]⟩, .string ⟨#[]⟩, .string ⟨#[]⟩, .slice none 0 0] 26 (0, 0)) from by rw [hW]; exact heap_alloc_new _ _)
  have C := hide (commands_any W)
  have HW := hide (Wrote.of_below (g := R) bW)
  have RD := hide (h.below bW)
  have LW := hide (hL.wrote (unhide HW) hR (by have := h.lt; omega))
  clear bW h hL
  go_enter Tryd.func21, Tryd.ntmps21
  go_upto_region 1 with fail
  rw [← hW]
  clear hW
  go_wp2_with fail
  refine (unhide C).mono ?_
  rintro e w2 ⟨mp, rfl, hF, hb, hmp⟩
  have KW2 := hide ((hb.block _ (al_lt (unhide KW))).trans (unhide KW))
  have HW2 := hide ((unhide HW).trans (Wrote.of_below hb))
  have R2 := hide ((unhide RD).below hb)
  have L2 := hide ((unhide LW).wrote (R := R) (Wrote.of_below hb) hR (by have := (unhide HW).size; have := unhide hlt; omega))
  have F2 := hide hF
  have hmpR := hide (show R < mp from by have := (unhide HW).size; have := unhide hlt; omega)
  clear C KW HW RD LW hF hb hmp
  cases L with
  | nil =>
    have C2 := hide (word_nil R w2 (unhide R2))
    clear R2 L2 KW2 F2
    go_wp2_with fail
    refine (unhide C2).mono ?_
    rintro e w3 ⟨rfl, rfl⟩
    have RES := hide (show ActR R (actI []) w noE w3 from ⟨unhide HW2, .inr ⟨rfl, rfl⟩⟩)
    clear C2 HW2
    unfold noE
    go_wp2_with fail
    exact ⟨rfl, unhide RES⟩
  | cons x r =>
    have C2 := hide (word_cons R x r w2 (unhide R2))
    clear R2
    go_wp2_with fail
    refine (unhide C2).mono ?_
    rintro e w3 ⟨rfl, hr, hw⟩
    have KW3 := hide ((hw.block _ (by have := unhide hlt; omega) (al_lt (unhide KW2))).trans (unhide KW2))
    have HW3 := hide ((unhide HW2).trans hw)
    have L3 := hide ((unhide L2).wrote hw hR (by have := (unhide HW2).size; have := unhide hlt; omega))
    have F3 := hide ((unhide F2).block (hw.block mp (by have := unhide hmpR; omega) (unhide F2).lt))
    have R3 := hide hr
    have look := (unhide F3).lookup (k := x) (by have := unhide hszx x r rfl; unfold maxLen; omega)
    clear C2 hr hw KW2 HW2 L2 F2 hszx
    rcases cmd_fn x with ⟨h0, h1⟩ | ⟨n, h0, heg, h1⟩
    · rw [h0] at look
      simp only [Option.getD_none, Option.isSome_none] at look
      have RES := hide (show ActR R (actI (x :: r)) w noE w3 from ⟨unhide HW3, .inr ⟨h1 r, rfl⟩⟩)
      clear KW3 HW3 L3 F3 R3 h0 h1
      go_wp2_with fail
      exact ⟨rfl, unhide RES⟩
    · rw [h0] at look
      simp only [Option.getD_some, Option.isSome_some] at look
      have C3 := hide (h1 R r w3 (unhide R3) (unhide L3) hR)
      have hegn := heg #[.pointer (some ⟨R, 0, none⟩)] w3
      clear L3 F3 R3 h0 h1 heg
      go_wp2_with fail
      refine (unhide C3).mono ?_
      rintro e w4 ⟨hw, hc⟩
      have KW4 := hide ((hw.block _ (by have := unhide hlt; omega) (al_lt (unhide KW3))).trans (unhide KW3))
      have HW4 := hide ((unhide HW3).trans hw)
      have hs34 := hide (show w.heap.size < w3.heap.size from al_lt (unhide KW3))
      clear C3 hw KW3 HW3 look hegn
      rcases hc with ⟨⟨d1, d2, d3, d4, d5, d6, d7, d8⟩, rr, a, m, c, hv, rfl, hk, hr⟩ | ⟨hn, rfl⟩
      · simp only [alC]
        have KK := hide (show KeepOwns w4 (w.heap.size + 1) (.slice a m c) d8 from ownsRow_down hk (by have := unhide hs34; omega))
        have HV := hide hv
        have HRR := hide hr
        clear hk hv hr
        have run := run_storeAl (unhide KW4) ⟨d1, d2, d3, d4, d5, d6, d7, d8⟩ a m c
        have kk := hide (sv8_heap (unhide KW4) (.int .i64 d1) (.int .i64 d2) (.int .i64 d3) (.int .i64 d4) (.string d5) (.string d6) (.string d7) (.slice a m c))
        have RES := hide (show ActR R (actI (x :: r)) w (.returned (.agg #[.int .i64 d1, .int .i64 d2, .int .i64 d3, .int .i64 d4, .string d5, .string d6, .string d7, .slice a m c])) (sv8 w4 w.heap.size (.int .i64 d1) (.int .i64 d2) (.int .i64 d3) (.int .i64 d4) (.string d5) (.string d6) (.string d7) (.slice a m c)) from ⟨wrote_sv8 (unhide HW4) (Nat.le_refl _) (.int .i64 d1) (.int .i64 d2) (.int .i64 d3) (.int .i64 d4) (.string d5) (.string d6) (.string d7) (.slice a m c), .inl ⟨⟨d1, d2, d3, d4, d5, d6, d7, d8⟩, rr, a, m, c, unhide HV, rfl, keep_sv8 (unhide KK) (.int .i64 d1) (.int .i64 d2) (.int .i64 d3) (.int .i64 d4) (.string d5) (.string d6) (.string d7) (.slice a m c), rd_sv8 (unhide HRR) (unhide hlt) (.int .i64 d1) (.int .i64 d2) (.int .i64 d3) (.int .i64 d4) (.string d5) (.string d6) (.string d7) (.slice a m c)⟩⟩)
        unfold sv8d at run
        simp only at run
        clear KW4 HW4 KK HV HRR
        go_wp2_with (first | (refine al_wpStore rfl (.tmp 2) (.tmp 17) 26 rfl _ _ _ (by simp [Act.eval]) (by simp [Act.eval]) run ?_))
        generalize sv8 _ w.heap.size (.int .i64 d1) (.int .i64 d2) (.int .i64 d3) (.int .i64 d4) (.string d5) (.string d6) (.string d7) (.slice a m c) = u at *
        have y0 := (heap_at (unhide kk) 0).1
        have y1 := (heap_at (unhide kk) 1).1
        have y2 := (heap_at (unhide kk) 2).1
        have y3 := (heap_at (unhide kk) 3).1
        have y4 := (heap_at (unhide kk) 4).1
        have y5 := (heap_at (unhide kk) 5).1
        have y6 := (heap_at (unhide kk) 6).1
        have y7 := (heap_at (unhide kk) 7).1
        clear run kk
        go_wp2_with fail
        refine bodyPost_ret (v := .agg #[.int .i64 d1, .int .i64 d2, .int .i64 d3, .int .i64 d4, .string d5, .string d6, .string d7, .slice a m c]) (by simp [results, Tryd.results21, go_sem, y0, y1, y2, y3, y4, y5, y6, y7]) rfl ?_
        exact unhide RES
      · have RES := hide (show ActR R (actI (x :: r)) w noE w4 from ⟨unhide HW4, .inr ⟨hn, rfl⟩⟩)
        clear KW4 HW4 hn
        unfold noE
        go_wp2_with fail
        exact ⟨rfl, unhide RES⟩
end Go.Proofs.YtmogcfiioajaeaaDoor
