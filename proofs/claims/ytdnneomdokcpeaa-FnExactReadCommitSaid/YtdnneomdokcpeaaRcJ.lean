/-
  impl.ReadCommit.
-/
import Derived.Test.YtdnneomdokcpeaaRcI
import Derived.Test.YtdnneomdokcpeaaCbJ
namespace Go.Proofs.Ytdnneomdokcpeaa
open Go.RowKit

theorem rc_txt {xs : List Int} (hb : By xs) : cbText (strOfNums xs) = xs := by
  unfold cbText
  rw [strOfNums_data, List.map_map]
  have : ∀ x ∈ xs, ((fun b : UInt8 => (b.toNat : Int)) ∘ fun n : Int => UInt8.ofNat n.toNat) x = x := fun x hx => by
    have := hb x hx
    simp
    omega
  rw [List.map_congr_left this, List.map_id']
theorem rc_strs {xs ys : List Int} (hx : By xs) (hy : By ys) : ((strOfNums xs).toList == (strOfNums ys).toList) = decide (xs = ys) := by
  by_cases h : xs = ys
  · subst h; simp
  · rw [decide_eq_false h]
    cases hq : ((strOfNums xs).toList == (strOfNums ys).toList) with
    | false => rfl
    | true =>
      refine absurd ?_ h
      have e : (strOfNums xs).toList = (strOfNums ys).toList := by simpa using hq
      rw [ByteArray.toList_eq, ByteArray.toList_eq] at e
      have e2 : strOfNums xs = strOfNums ys := by
        generalize strOfNums xs = a at *
        generalize strOfNums ys = b at *
        cases a
        cases b
        simp at e
        simp [e]
      rw [← rc_txt hx, ← rc_txt hy, e2]
theorem by_text (t : ByteArray) : By (cbText t) := fun x hx => by
  obtain ⟨b, _, rfl⟩ := List.mem_map.1 hx
  have := b.toNat_lt
  exact ⟨by omega, by omega⟩
theorem by_one {d : VerD} (hk : d.k.size ≤ 255) (hv : d.v.size ≤ 255) : By (cbOne d) := fun x hx => by
  unfold cbOne cbLine at hx
  simp only [List.mem_cons, List.mem_append] at hx
  rcases hx with rfl | (rfl | hx) | (rfl | hx)
  · unfold cbMark; cases d.g <;> simp
  · omega
  · exact by_text _ x hx
  · omega
  · exact by_text _ x hx
theorem by_all : ∀ {ds : List VerD}, (∀ i (hi : i < ds.length), ds[i].k.size ≤ 255 ∧ ds[i].v.size ≤ 255) → By (cbAll ds)
  | [], _ => fun x hx => by cases hx
  | d :: r, h => fun x hx => by
    have h0 := h 0 (by simp)
    rcases List.mem_append.1 (show x ∈ cbOne d ++ cbAll r from hx) with h1 | h1
    · exact by_one h0.1 h0.2 x h1
    · exact by_all (fun i hi => h (i + 1) (by simpa using hi)) x h1
set_option maxHeartbeats 1000000 in
theorem bytesEqual_any (a1 a2 : Option Addr) (n1 c1 n2 c2 : Nat) (xs ys : List Int) (w : World) (h1 : Row w a1 n1 xs) (h2 : Row w a2 n2 ys) (hx : By xs) (hy : By ys) :
    Calls Try.prog 39 #[.slice a1 n1 c1, .slice a2 n2 c2] w fun e w' => e = .returned (.bool (decide (xs = ys))) ∧ w' = w := by
  have v1 := conv_text (c := c1) h1
  have v2 := conv_text (c := c2) h2
  have E := hide (rc_strs hx hy)
  clear h1 h2 hx hy
  generalize strOfNums xs = s1 at *
  generalize strOfNums ys = s2 at *
  go_enter Try.func39, Try.ntmps39
  go_wp2_with fail
  first | (go_quiet (fail); go_wp2_with fail) | skip
  go_ret
  exact ⟨ret_bool (unhide E), rfl⟩
/-- What ReadCommit answers. -/
def rcC (t : Int) (xs : List Int) : Int := if xs.length ≤ 65536 then (if idK t = true then (if rcOK t xs = true then 0 else 3) else 4) else 2
def rcA (t : Int) (xs : List Int) : List VerD := if rcC t xs = 0 then rcL t xs else []
def RcRes (t : Int) (xs : List Int) (w : World) (e : Ending) (w' : World) : Prop := ∃ v, e = .returned (.tuple #[v, .int .i64 (rcC t xs)]) ∧ VOwns w' w.heap.size v (rcA t xs) ∧ Below w.heap.size w w'
theorem rc_no {t : Int} {xs : List Int} {w w' : World} {v : Value} {k : Int} (hk : k ≠ 0) (hc : rcC t xs = k) (ho : VOwns w' w.heap.size v []) (hb : Below w.heap.size w w') : RcRes t xs w (.returned (.tuple #[v, .int .i64 k])) w' :=
  ⟨v, by rw [hc], by unfold rcA; rw [if_neg (by rw [hc]; exact hk)]; exact ho, hb⟩
theorem rc_yes {t : Int} {xs : List Int} {w w' : World} {v : Value} (hc : rcC t xs = 0) (ho : VOwns w' w.heap.size v (rcL t xs)) (hb : Below w.heap.size w w') : RcRes t xs w (.returned (.tuple #[v, .int .i64 0])) w' :=
  ⟨v, by rw [hc], by unfold rcA; rw [if_pos hc]; exact ho, hb⟩
theorem rc_long {t : Int} {xs : List Int} (h : ¬ xs.length ≤ 65536) : rcC t xs = 2 := by unfold rcC; rw [if_neg h]
theorem rc_range {t : Int} {xs : List Int} (h : xs.length ≤ 65536) (h2 : idK t = false) : rcC t xs = 4 := by unfold rcC; rw [if_pos h, if_neg (by rw [h2]; decide)]
theorem rc_form {t : Int} {xs : List Int} (h : xs.length ≤ 65536) (h2 : idK t = true) (h3 : rcOK t xs = false) : rcC t xs = 3 := by unfold rcC; rw [if_pos h, if_pos h2, if_neg (by rw [h3]; decide)]
theorem rc_ok {t : Int} {xs : List Int} (h : xs.length ≤ 65536) (h2 : idK t = true) (h3 : rcOK t xs = true) : rcC t xs = 0 := by unfold rcC; rw [if_pos h, if_pos h2, if_pos h3]
theorem vowns_slice {w : World} {B : Nat} {v : Value} {ds : List VerD} (h : VOwns w B v ds) : ∃ a c, v = .slice a ds.length c := by
  rcases h.2 with ⟨rfl, hn⟩ | ⟨g, cap, cur, rfl, _⟩
  · exact ⟨none, 0, by rw [hn]⟩
  · exact ⟨_, _, rfl⟩
theorem vowns_dn {w : World} {B C : Nat} {v : Value} {ds : List VerD} (h : VOwns w B v ds) (hc : C ≤ B) : VOwns w C v ds := by
  obtain ⟨h1, h2⟩ := h
  refine ⟨h1, ?_⟩
  rcases h2 with h2 | ⟨g, cap, cur, e, hb, r⟩
  · exact .inl h2
  · exact .inr ⟨g, cap, cur, e, Nat.le_trans hc hb, r⟩
end Go.Proofs.Ytdnneomdokcpeaa
