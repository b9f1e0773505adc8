/-
  Changes as values.
-/
import Derived.Test.YtkggpapmhopaeaaPageC
import Derived.Deep.RegionWith
namespace Go.Proofs.Ytkggpapmhopaeaa
open Go.RowKit

/-- A change that is right by itself, as the value of its own type. -/
def chgV (d : DelD) : Value :=
  if d.kind = 1 then .iface 102 (.agg #[.string d.k, .string d.v]) else if d.kind = 2 then .iface 104 (.agg #[.string d.k]) else .iface 106 (.agg #[.string d.k, .int .i64 d.to])
def okC (d : DelD) : Bool :=
  keyK d.k && ((decide (d.kind = 1) && valK d.v && decide (d.to = 0)) || (decide (d.kind = 2) && d.v.toList.isEmpty && decide (d.to = 0)) || (decide (d.kind = 3) && d.v.toList.isEmpty && idK d.to))
theorem tup_vb {a b : Value} {c d : Bool} (h : a = b) (g : c = d) : Ending.returned (.tuple #[a, .bool c]) = .returned (.tuple #[b, .bool d]) := by rw [h, g]
set_option maxRecDepth 100000 in
set_option maxHeartbeats 2000000 in
theorem changeOf_any (d : DelD) (w : World) :
    Calls Try.prog 49 #[.agg #[.int .i64 d.kind, .string d.k, .string d.v, .int .i64 d.to]] w fun e w' => ∃ cv, e = .returned (.tuple #[cv, .bool (okC d)]) ∧ (okC d = true → cv = chgV d) ∧ Below w.heap.size w w' := by
  have B0 := (Below.refl w.heap.size w).alloc (Nat.le_refl _) (.cells #[.int .i64 d.kind, .string d.k, .string d.v, .int .i64 d.to] 44)
  obtain ⟨T, hT⟩ : ∃ T, T = okC d := ⟨_, rfl⟩
  have HT := hide hT
  rw [← hT]
  clear hT
  by_cases hk : keyK d.k = true
  · by_cases h1 : d.kind = 1
    · have q1 : (d.kind == 1) = true := by rw [h1]; rfl
      have HC := hide (show Value.iface 102 (.agg #[.string d.k, .string d.v]) = chgV d by unfold chgV; rw [if_pos h1])
      by_cases hv : valK d.v = true
      · have E := hide (show decide (d.to = 0) = T by rw [unhide HT]; unfold okC; rw [hk, hv, h1]; simp)
        obtain ⟨dk, k, v, to⟩ := d
        simp only at *
        subst h1
        have hva : ∀ u, Calls Try.prog 73 #[.string v] u fun e w' => e = .returned (.bool true) ∧ w' = u := fun u => by have := valueOK_any v u; rwa [hv] at this
        go_enter Try.func49, Try.ntmps49
        go_wp2_with fail
        refine (keyOK_any k _).mono ?_
        rintro e w1 ⟨rfl, rfl⟩
        rw [hk]
        go_wp2_with fail
        go_quiet ((go_at_call 73; exact Calls.quiet_of_same (hva _)))
        go_wp2_with fail
        go_ret2
        exact ⟨_, tup_vb rfl (unhide E), fun _ => unhide HC, bel_drewN B0 _⟩
      · have hv : valK d.v = false := by simpa using hv
        have E := hide (show false = T by rw [unhide HT]; unfold okC; rw [hk, hv, h1]; simp)
        obtain ⟨dk, k, v, to⟩ := d
        simp only at *
        subst h1
        have hva : ∀ u, Calls Try.prog 73 #[.string v] u fun e w' => e = .returned (.bool false) ∧ w' = u := fun u => by have := valueOK_any v u; rwa [hv] at this
        go_enter Try.func49, Try.ntmps49
        go_wp2_with fail
        refine (keyOK_any k _).mono ?_
        rintro e w1 ⟨rfl, rfl⟩
        rw [hk]
        go_wp2_with fail
        go_quiet ((go_at_call 73; exact Calls.quiet_of_same (hva _)))
        go_wp2_with fail
        go_ret2
        exact ⟨_, tup_vb rfl (unhide E), fun _ => unhide HC, bel_drewN B0 _⟩
    · by_cases h2 : d.kind = 2
      · have HC := hide (show Value.iface 104 (.agg #[.string d.k]) = chgV d by unfold chgV; rw [if_neg h1, if_pos h2])
        by_cases hv : d.v.toList.isEmpty = true
        · have E := hide (show decide (d.to = 0) = T by rw [unhide HT]; unfold okC; rw [hk, hv, h2]; simp)
          obtain ⟨dk, k, v, to⟩ := d
          simp only at *
          subst h2
          go_enter Try.func49, Try.ntmps49
          go_wp2_with fail
          refine (keyOK_any k _).mono ?_
          rintro e w1 ⟨rfl, rfl⟩
          rw [hk]
          go_wp2_with fail
          go_quiet (fail)
          go_wp2_with fail
          go_ret2
          exact ⟨_, tup_vb rfl (unhide E), fun _ => unhide HC, bel_drewN B0 _⟩
        · have hv : d.v.toList.isEmpty = false := by simpa using hv
          have E := hide (show false = T by rw [unhide HT]; unfold okC; rw [hk, hv, h2]; simp)
          obtain ⟨dk, k, v, to⟩ := d
          simp only at *
          subst h2
          go_enter Try.func49, Try.ntmps49
          go_wp2_with fail
          refine (keyOK_any k _).mono ?_
          rintro e w1 ⟨rfl, rfl⟩
          rw [hk]
          go_wp2_with fail
          go_quiet (fail)
          go_wp2_with fail
          go_ret2
          exact ⟨_, tup_vb rfl (unhide E), fun _ => unhide HC, bel_drewN B0 _⟩
      · by_cases h3 : d.kind = 3
        · have HC := hide (show Value.iface 106 (.agg #[.string d.k, .int .i64 d.to]) = chgV d by unfold chgV; rw [if_neg h1, if_neg h2])
          by_cases hv : d.v.toList.isEmpty = true
          · have E := hide (show idK d.to = T by rw [unhide HT]; unfold okC; rw [hk, hv, h3]; simp)
            obtain ⟨dk, k, v, to⟩ := d
            simp only at *
            subst h3
            go_enter Try.func49, Try.ntmps49
            go_wp2_with fail
            refine (keyOK_any k _).mono ?_
            rintro e w1 ⟨rfl, rfl⟩
            rw [hk]
            go_wp2_with fail
            go_quiet ((go_at_call 74; exact Calls.quiet_of_same (idOK_any to _)))
            go_wp2_with fail
            go_ret2
            exact ⟨_, tup_vb rfl (unhide E), fun _ => unhide HC, bel_drewN B0 _⟩
          · have hv : d.v.toList.isEmpty = false := by simpa using hv
            have E := hide (show false = T by rw [unhide HT]; unfold okC; rw [hk, hv, h3]; simp)
            obtain ⟨dk, k, v, to⟩ := d
            simp only at *
            subst h3
            go_enter Try.func49, Try.ntmps49
            go_wp2_with fail
            refine (keyOK_any k _).mono ?_
            rintro e w1 ⟨rfl, rfl⟩
            rw [hk]
            go_wp2_with fail
            go_quiet (fail)
            go_wp2_with fail
            go_ret2
            exact ⟨_, tup_vb rfl (unhide E), fun _ => unhide HC, bel_drewN B0 _⟩
        · have E := hide (show false = T by rw [unhide HT]; unfold okC; rw [decide_eq_false h1, decide_eq_false h2, decide_eq_false h3]; simp)
          obtain ⟨dk, k, v, to⟩ := d
          simp only at *
          go_enter Try.func49, Try.ntmps49
          go_wp2_with fail
          refine (keyOK_any k _).mono ?_
          rintro e w1 ⟨rfl, rfl⟩
          rw [hk]
          go_wp2_with fail
          go_ret2
          exact ⟨_, tup_vb rfl (unhide E), fun h => absurd ((unhide E).trans h) (by decide), B0⟩
  · have hk : keyK d.k = false := by simpa using hk
    have E := hide (show false = T by rw [unhide HT]; unfold okC; rw [hk]; rfl)
    obtain ⟨dk, k, v, to⟩ := d
    simp only at *
    go_enter Try.func49, Try.ntmps49
    go_wp2_with fail
    refine (keyOK_any k _).mono ?_
    rintro e w1 ⟨rfl, rfl⟩
    rw [hk]
    go_wp2_with fail
    go_ret2
    exact ⟨_, tup_vb rfl (unhide E), fun h => absurd ((unhide E).trans h) (by decide), B0⟩
theorem about_put (k v : ByteArray) (w : World) : Calls Try.prog 102 #[.agg #[.string k, .string v]] w fun e w' => e = .returned (.string k) ∧ Below w.heap.size w w' := by
  go_enter Try.func102, Try.ntmps102
  go_wp2_with fail
  go_ret
  exact ⟨rfl, (Below.refl _ _).alloc (Nat.le_refl _) _⟩
theorem about_drop (k : ByteArray) (w : World) : Calls Try.prog 103 #[.agg #[.string k]] w fun e w' => e = .returned (.string k) ∧ Below w.heap.size w w' := by
  go_enter Try.func103, Try.ntmps103
  go_wp2_with fail
  go_ret
  exact ⟨rfl, (Below.refl _ _).alloc (Nat.le_refl _) _⟩
theorem about_split (k : ByteArray) (to : Int) (w : World) : Calls Try.prog 104 #[.agg #[.string k, .int .i64 to]] w fun e w' => e = .returned (.string k) ∧ Below w.heap.size w w' := by
  go_enter Try.func104, Try.ntmps104
  go_wp2_with fail
  go_ret
  exact ⟨rfl, (Below.refl _ _).alloc (Nat.le_refl _) _⟩
theorem as_put_put (v : Value) (w : World) : (Instr.typeAssert (.iface 102 v) 78 102 true).run Try.prog w = .ok (.tuple #[v, .bool true]) w := by kernel_rfl
theorem as_put_drop (v : Value) (w : World) : (Instr.typeAssert (.iface 102 v) 78 104 true).run Try.prog w = .ok (.tuple #[.agg #[.string ByteArray.empty], .bool false]) w := by kernel_rfl
theorem as_put_split (v : Value) (w : World) : (Instr.typeAssert (.iface 102 v) 78 106 true).run Try.prog w = .ok (.tuple #[.agg #[.string ByteArray.empty, .int .i64 0], .bool false]) w := by kernel_rfl
theorem as_drop_put (v : Value) (w : World) : (Instr.typeAssert (.iface 104 v) 78 102 true).run Try.prog w = .ok (.tuple #[.agg #[.string ByteArray.empty, .string ByteArray.empty], .bool false]) w := by kernel_rfl
theorem as_drop_drop (v : Value) (w : World) : (Instr.typeAssert (.iface 104 v) 78 104 true).run Try.prog w = .ok (.tuple #[v, .bool true]) w := by kernel_rfl
theorem as_drop_split (v : Value) (w : World) : (Instr.typeAssert (.iface 104 v) 78 106 true).run Try.prog w = .ok (.tuple #[.agg #[.string ByteArray.empty, .int .i64 0], .bool false]) w := by kernel_rfl
theorem as_split_put (v : Value) (w : World) : (Instr.typeAssert (.iface 106 v) 78 102 true).run Try.prog w = .ok (.tuple #[.agg #[.string ByteArray.empty, .string ByteArray.empty], .bool false]) w := by kernel_rfl
theorem as_split_drop (v : Value) (w : World) : (Instr.typeAssert (.iface 106 v) 78 104 true).run Try.prog w = .ok (.tuple #[.agg #[.string ByteArray.empty], .bool false]) w := by kernel_rfl
theorem as_split_split (v : Value) (w : World) : (Instr.typeAssert (.iface 106 v) 78 106 true).run Try.prog w = .ok (.tuple #[v, .bool true]) w := by kernel_rfl
set_option maxRecDepth 100000 in
set_option maxHeartbeats 2000000 in
theorem takes_put (sb : Nat) (lo hi : ByteArray) (r : Int) (v : Value) (k u : ByteArray) (w : World) (h : SetAt w sb lo hi r v) :
    Calls Try.prog 50 #[.pointer (some ⟨sb, 0, none⟩), .iface 102 (.agg #[.string k, .string u])] w fun e w' => e = .returned (.bool (inK lo hi k)) ∧ Below w.heap.size w w' := by
  have HS := hide h
  clear h
  have t1 := as_put_split
  go_enter Try.func50, Try.ntmps50
  go_wp2_with fail
  refine (about_put k u _).mono ?_
  rintro e w1 ⟨rfl, hb1⟩
  go_wp2_with fail
  refine (covers_any sb lo hi r v k _ ((unhide HS).below hb1 (unhide HS).lt)).mono ?_
  rintro e w2 ⟨rfl, qc, rfl⟩
  go_wp2_with fail
  go_ret
  exact ⟨rfl, bel_drewN hb1 _⟩
set_option maxRecDepth 100000 in
set_option maxHeartbeats 2000000 in
theorem takes_drop (sb : Nat) (lo hi : ByteArray) (r : Int) (v : Value) (k : ByteArray) (w : World) (h : SetAt w sb lo hi r v) :
    Calls Try.prog 50 #[.pointer (some ⟨sb, 0, none⟩), .iface 104 (.agg #[.string k])] w fun e w' => e = .returned (.bool (inK lo hi k)) ∧ Below w.heap.size w w' := by
  have HS := hide h
  clear h
  have t1 := as_drop_split
  go_enter Try.func50, Try.ntmps50
  go_wp2_with fail
  refine (about_drop k _).mono ?_
  rintro e w1 ⟨rfl, hb1⟩
  go_wp2_with fail
  refine (covers_any sb lo hi r v k _ ((unhide HS).below hb1 (unhide HS).lt)).mono ?_
  rintro e w2 ⟨rfl, qc, rfl⟩
  go_wp2_with fail
  go_ret
  exact ⟨rfl, bel_drewN hb1 _⟩
set_option maxRecDepth 100000 in
set_option maxHeartbeats 2000000 in
theorem takes_split (sb : Nat) (lo hi : ByteArray) (r : Int) (v : Value) (k : ByteArray) (to : Int) (w : World) (h : SetAt w sb lo hi r v) :
    Calls Try.prog 50 #[.pointer (some ⟨sb, 0, none⟩), .iface 106 (.agg #[.string k, .int .i64 to])] w fun e w' => e = .returned (.bool (inK lo hi k && ltK lo k)) ∧ Below w.heap.size w w' := by
  have B0 := (Below.refl w.heap.size w).alloc (Nat.le_refl _) (.cells #[.string k, .int .i64 to] 106)
  have HS := hide (h.below B0 h.lt)
  clear h
  have c0 := (unhide HS).c0
  have t1 := as_split_split
  by_cases hin : inK lo hi k = true
  · have E := hide (show (!(k.toList == lo.toList)) = (inK lo hi k && ltK lo k) by
      rw [hin]
      have h1 : ltK k lo = false := by unfold inK at hin; simp only [Bool.and_eq_true, Bool.not_eq_true'] at hin; exact hin.1
      unfold ltK at *
      rw [bl_turn, h1]
      simp)
    have hcv : ∀ q, Calls Try.prog 46 #[.pointer (some ⟨sb, 0, none⟩), .string k] ((w.alloc (.cells #[.string k, .int .i64 to] 106)).drewN q) fun e w' => e = .returned (.bool true) ∧ ∃ m, w' = ((w.alloc (.cells #[.string k, .int .i64 to] 106)).drewN q).drewN m := fun q => by
      have := covers_any sb lo hi r v k ((w.alloc (.cells #[.string k, .int .i64 to] 106)).drewN q) (unhide HS)
      rwa [hin] at this
    go_enter Try.func50, Try.ntmps50
    go_wp2_with fail
    go_quiet ((go_at_call 46; exact Calls.quiet_of (hcv _)))
    go_wp2_with fail
    go_ret
    exact ⟨ret_bool (unhide E), bel_drewN B0 _⟩
  · have hin : inK lo hi k = false := by simpa using hin
    have E := hide (show false = (inK lo hi k && ltK lo k) by rw [hin]; rfl)
    have hcv : ∀ q, Calls Try.prog 46 #[.pointer (some ⟨sb, 0, none⟩), .string k] ((w.alloc (.cells #[.string k, .int .i64 to] 106)).drewN q) fun e w' => e = .returned (.bool false) ∧ ∃ m, w' = ((w.alloc (.cells #[.string k, .int .i64 to] 106)).drewN q).drewN m := fun q => by
      have := covers_any sb lo hi r v k ((w.alloc (.cells #[.string k, .int .i64 to] 106)).drewN q) (unhide HS)
      rwa [hin] at this
    go_enter Try.func50, Try.ntmps50
    go_wp2_with fail
    go_quiet ((go_at_call 46; exact Calls.quiet_of (hcv _)))
    go_wp2_with fail
    go_ret
    exact ⟨ret_bool (unhide E), bel_drewN B0 _⟩
end Go.Proofs.Ytkggpapmhopaeaa
