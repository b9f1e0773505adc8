/-
  impl.PageOK, impl.Bounds; the small tests of the specification's pages.
-/
import Derived.Test.YtkggpapmhopaeaaPageJ
namespace Go.Proofs.Ytkggpapmhopaeaa
open Go.RowKit

set_option maxRecDepth 100000 in
set_option maxHeartbeats 1000000 in
theorem implPageOK_any (lo hi : ByteArray) (r : Int) (ab : Option Addr) (nb cb : Nat) (es : List EntD) (ac : Option Addr) (nc cc : Nat) (ds : List DelD) (w : World) (hE : ERow w ab nb es) (hD : DRow w ac nc ds) :
    Calls Try.prog 12 #[pgv lo hi r ab nb cb ac nc cc] w fun e w' => e = .returned (.bool (okPage lo hi r es ds)) ∧ Below w.heap.size w w' := by
  have b0 : Below w.heap.size w (w.alloc (.cells #[.string lo, .string hi, .int .i64 r, .slice ab nb cb, .slice ac nc cc] 31)) := (Below.refl _ _).alloc (Nat.le_refl _) _
  have RE := hide (hE.below b0)
  have RD := hide (hD.below b0)
  clear hE hD
  go_enter Try.func12, Try.ntmps12
  go_wp2_with fail
  refine (settle_any lo hi r ab nb cb es ac nc cc ds _ (unhide RE) (unhide RD)).mono ?_
  rintro e w1 ⟨v, b, rfl, ⟨hb, _⟩, hb1⟩
  have HB := hide hb
  clear hb
  go_wp2_with fail
  go_ret
  exact ⟨ret_bool (unhide HB), b0.trans (hb1.mono b0.size)⟩
theorem tup_siz {a b : ByteArray} {c d : Int} {e f : Int} (h : a = b) (g : c = d) (i : e = f) : Ending.returned (.tuple #[.string a, .int .i64 c, .int .i64 e]) = .returned (.tuple #[.string b, .int .i64 d, .int .i64 f]) := by rw [h, g, i]
set_option maxRecDepth 100000 in
set_option maxHeartbeats 1000000 in
theorem implBounds_any (lo hi : ByteArray) (r : Int) (ab : Option Addr) (nb cb : Nat) (es : List EntD) (ac : Option Addr) (nc cc : Nat) (ds : List DelD) (w : World) (hE : ERow w ab nb es) (hD : DRow w ac nc ds) :
    Calls Try.prog 15 #[pgv lo hi r ab nb cb ac nc cc] w fun e w' => e = .returned (if okPage lo hi r es ds = true then .tuple #[.string (highE hi ds), .int .i64 (rightE r ds), .int .i64 0] else .tuple #[.string ByteArray.empty, .int .i64 0, .int .i64 1]) ∧ Below w.heap.size w w' := by
  have b0 : Below w.heap.size w (w.alloc (.cells #[.string lo, .string hi, .int .i64 r, .slice ab nb cb, .slice ac nc cc] 31)) := (Below.refl _ _).alloc (Nat.le_refl _) _
  have RE := hide (hE.below b0)
  have RD := hide (hD.below b0)
  clear hE hD
  obtain ⟨T, hT⟩ : ∃ T, T = (if okPage lo hi r es ds = true then Value.tuple #[.string (highE hi ds), .int .i64 (rightE r ds), .int .i64 0] else .tuple #[.string ByteArray.empty, .int .i64 0, .int .i64 1]) := ⟨_, rfl⟩
  rw [← hT]
  have HT := hide hT
  clear hT
  go_enter Try.func15, Try.ntmps15
  go_wp2_with fail
  refine (settle_any lo hi r ab nb cb es ac nc cc ds _ (unhide RE) (unhide RD)).mono ?_
  rintro e w1 ⟨v, b, rfl, ⟨hb, hs⟩, hb1⟩
  have BB := hide (b0.trans (hb1.mono b0.size))
  clear b0 hb1 RE RD
  cases b with
  | false =>
    have HE := hide (show Value.tuple #[.string ByteArray.empty, .int .i64 0, .int .i64 1] = T by rw [unhide HT, ← hb]; rfl)
    clear hb hs HT
    go_wp2_with fail
    go_ret3
    exact ⟨congrArg Ending.returned (unhide HE), unhide BB⟩
  | true =>
    have HE := hide (show Value.tuple #[.string (highE hi ds), .int .i64 (rightE r ds), .int .i64 0] = T by rw [unhide HT, ← hb]; rfl)
    obtain ⟨sb, a', n', c', rfl, _, hS⟩ := hs rfl
    have c1 := hS.at_.c1
    have c2 := hS.at_.c2
    clear hb hs HT hS
    go_wp2_with fail
    first | (go_quiet (fail); go_wp2_with fail) | skip
    go_ret3
    exact ⟨congrArg Ending.returned (unhide HE), by first | exact unhide BB | exact bel_drewN (unhide BB) _⟩
theorem l01In_any (n a b : Int) (w : World) : Calls Try.prog 33 #[.int .i64 n, .int .i64 a, .int .i64 b] w fun e w' => e = .returned (.bool (decide (a ≤ n) && decide (n ≤ b))) ∧ w' = w := by
  by_cases h : a ≤ n
  · have E := hide (show decide (n ≤ b) = (decide (a ≤ n) && decide (n ≤ b)) by rw [decide_eq_true h]; rfl)
    go_enter Try.func33, Try.ntmps33
    go_wp2_with fail
    go_ret
    exact ⟨ret_bool (unhide E), rfl⟩
  · have E := hide (show false = (decide (a ≤ n) && decide (n ≤ b)) by rw [decide_eq_false h]; rfl)
    go_enter Try.func33, Try.ntmps33
    go_wp2_with fail
    go_ret
    exact ⟨ret_bool (unhide E), rfl⟩
theorem l04Key_any (k : ByteArray) (w : World) : Calls Try.prog 34 #[.string k] w fun e w' => e = .returned (.bool (keyK k)) ∧ w' = w := by
  by_cases h : 0 < k.size
  · have E := hide (show decide ((k.size : Int) ≤ 40) = keyK k by unfold keyK; rw [decide_eq_decide]; omega)
    go_enter Try.func34, Try.ntmps34
    go_wp2_with fail
    go_ret
    exact ⟨ret_bool (unhide E), rfl⟩
  · have E := hide (show false = keyK k by unfold keyK; rw [decide_eq_false]; omega)
    go_enter Try.func34, Try.ntmps34
    go_wp2_with fail
    go_ret
    exact ⟨ret_bool (unhide E), rfl⟩
/-- Below a bound. -/
def underK (k hi : ByteArray) : Bool := hi.toList.isEmpty || ltK k hi
theorem l04Under_any (k hi : ByteArray) (w : World) : Calls Try.prog 35 #[.string k, .string hi] w fun e w' => e = .returned (.bool (underK k hi)) ∧ w' = w := by
  by_cases h : hi.toList.isEmpty = true
  · have E := hide (show true = underK k hi by unfold underK; rw [h]; rfl)
    go_enter Try.func35, Try.ntmps35
    go_wp2_with fail
    go_ret
    exact ⟨ret_bool (unhide E), rfl⟩
  · have h' : hi.toList.isEmpty = false := by simpa using h
    have E := hide (show Op.bytesLess k.toList hi.toList = underK k hi by unfold underK ltK; rw [h']; rfl)
    go_enter Try.func35, Try.ntmps35
    go_wp2_with fail
    go_ret
    exact ⟨ret_bool (unhide E), rfl⟩
end Go.Proofs.Ytkggpapmhopaeaa
