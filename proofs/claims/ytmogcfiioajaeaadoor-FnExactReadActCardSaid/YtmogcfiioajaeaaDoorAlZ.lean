/-
  What the program reads of words is what the specification reads.
-/
import Derived.Test.YtmogcfiioajaeaaDoorAlV
namespace Go.Proofs.YtmogcfiioajaeaaDoor
open Go.RowKit

theorem acW_tx {x : ByteArray} {r : List ByteArray} (h1 : x ≠ syncB) (h2 : x ≠ cleanB) (h3 : x ≠ crashB) : acW (x :: r) = txW (x :: r) := by
  unfold acW
  cases h : txW (x :: r) with
  | some d => rfl
  | none =>
    match r with
    | [] => simp only [if_neg h1, if_neg h2]
    | [y] => simp only [if_neg h3]
    | [y, z] => simp only [if_neg h3]
    | y :: z :: u :: v => rfl
theorem txW_k {x : ByteArray} {r : List ByteArray} {k : Nat} (hk : placeB x kindsB 0 = (k : Int)) (h1 : 1 ≤ k) : txW (x :: r) = match r with
    | [] => none
    | y :: rest => txR (numV y.data.toList) k rest := by
  match r with
  | [] => rfl
  | y :: rest =>
    show (if placeB x kindsB 0 < 1 then none else txR (numV y.data.toList) (placeB x kindsB 0).toNat rest) = _
    rw [hk, if_neg (by omega), Int.toNat_natCast]
theorem txW_no {x : ByteArray} {r : List ByteArray} (hk : placeB x kindsB 0 < 1) : txW (x :: r) = none := by
  match r with
  | [] => rfl
  | y :: rest => exact if_pos hk
def cutO : Option (AlD × List ByteArray) → Option AlD
  | some (d, []) => some d
  | _ => none
theorem actO_eq (L : List ByteArray) : actO L = cutO (actI L) := rfl
theorem tx0 (k : Nat) (hl : leastK k = 0) (hm : mostK k = 0) (h4 : k ≠ 4) (o : Option Int) (rest : List ByteArray) : cutO (o.map fun v => (⟨1, 0, (k : Int), v, ⟨#[]⟩, ⟨#[]⟩, ⟨#[]⟩, []⟩, rest)) = txR o k rest := by
  cases o with
  | none => rfl
  | some v =>
    unfold txR
    simp only [hl, hm]
    match rest with
    | [] => simp [cutO, h4]
    | y :: z => simp [cutO]
theorem eq_tx (k : Nat) (hl : leastK k = 0) (hm : mostK k = 0) (h4 : k ≠ 4) (r : List ByteArray) : cutO (txI (k : Int) r) = match r with
    | [] => none
    | y :: rest => txR (numV y.data.toList) k rest := by
  match r with
  | [] => rfl
  | y :: rest => exact tx0 k hl hm h4 _ _
theorem txI_cons (kind : Int) (y : ByteArray) (rest : List ByteArray) : txI kind (y :: rest) = (numV y.data.toList).map fun v => (⟨1, 0, kind, v, ⟨#[]⟩, ⟨#[]⟩, ⟨#[]⟩, []⟩, rest) := rfl
theorem eq_key (k : Nat) (hl : leastK k = 1) (hm : mostK k = 1) (h4 : k ≠ 4) (r : List ByteArray) : cutO (keyI (k : Int) r) = match r with
    | [] => none
    | y :: rest => txR (numV y.data.toList) k rest := by
  match r with
  | [] => rfl
  | y :: rest =>
    show _ = txR (numV y.data.toList) k rest
    unfold keyI
    rw [txI_cons]
    generalize numV y.data.toList = o
    cases o with
    | none => rfl
    | some v =>
      unfold txR
      simp only [hl, hm, Option.map_some]
      match rest with
      | [] => simp [cutO]
      | [x] => simp [cutO, h4]
      | x :: u :: z => simp [cutO]
theorem eq_put (r : List ByteArray) : cutO (putI r) = match r with
    | [] => none
    | y :: rest => txR (numV y.data.toList) 4 rest := by
  match r with
  | [] => rfl
  | y :: rest =>
    show _ = txR (numV y.data.toList) 4 rest
    unfold putI keyI
    rw [txI_cons]
    generalize numV y.data.toList = o
    cases o with
    | none => rfl
    | some v =>
      match rest with
      | [] => rfl
      | [x] => rfl
      | [x, u] => rfl
      | x :: u :: z :: t => simp [cutO, txR, leastK, mostK]
theorem eq_scan (r : List ByteArray) : cutO (scanI r) = match r with
    | [] => none
    | y :: rest => txR (numV y.data.toList) 3 rest := by
  match r with
  | [] => rfl
  | y :: rest =>
    show _ = txR (numV y.data.toList) 3 rest
    unfold scanI
    rw [txI_cons]
    generalize numV y.data.toList = o
    cases o with
    | none => rfl
    | some v =>
      match rest with
      | [] => rfl
      | [x] => rfl
      | [x, u] => rfl
      | x :: u :: z :: t => simp [cutO, txR, leastK, mostK]
def crO (o : Option Int) (r : List ByteArray) : Option (AlD × List ByteArray) := match o with
    | none => none
    | some v => if okL (r.headD ⟨#[]⟩).data.toList = true then some (crA v (flL (r.headD ⟨#[]⟩).data.toList), r.tail) else none
theorem crashI_cons (y : ByteArray) (r : List ByteArray) : crashI (y :: r) = crO (numV y.data.toList) r := rfl
theorem eq_crash (r : List ByteArray) : cutO (crashI r) = acW (crashB :: r) := by
  unfold acW
  rw [txW_no (by decide)]
  match r with
  | [] => rfl
  | [y] =>
    rw [crashI_cons]
    show _ = (numV y.data.toList).map fun v => crA v []
    cases numV y.data.toList <;> rfl
  | [y, z] =>
    rw [crashI_cons]
    show _ = if okL z.data.toList = true then (numV y.data.toList).map (fun v => crA v (flL z.data.toList)) else none
    unfold crO
    simp only [List.headD_cons, List.tail_cons]
    by_cases h : okL z.data.toList = true <;> cases numV y.data.toList <;> simp [cutO, h]
  | y :: z :: u :: t =>
    rw [crashI_cons]
    show _ = none
    unfold crO
    simp only [List.headD_cons, List.tail_cons]
    by_cases h : okL z.data.toList = true <;> cases numV y.data.toList <;> simp [cutO, h]
theorem act_same (L : List ByteArray) : actO L = acW L := by
  rw [actO_eq]
  match L with
  | [] => rfl
  | x :: r =>
    show cutO (cmdI x r) = _
    unfold cmdI
    by_cases h40 : x = ⟨#[99, 114, 97, 115, 104]⟩
    · rw [if_pos h40, h40]; exact eq_crash r
    simp only [h40, if_false]
    by_cases h39 : x = ⟨#[99, 108, 101, 97, 110]⟩
    · rw [if_pos h39, h39]
      unfold acW
      rw [txW_no (by decide)]
      match r with
      | [] => rfl
      | [y] => rfl
      | [y, z] => rfl
      | y :: z :: u :: v => rfl
    simp only [h39, if_false]
    by_cases h38 : x = ⟨#[115, 121, 110, 99]⟩
    · rw [if_pos h38, h38]
      unfold acW
      rw [txW_no (by decide)]
      match r with
      | [] => rfl
      | [y] => rfl
      | [y, z] => rfl
      | y :: z :: u :: v => rfl
    simp only [h38, if_false]
    rw [acW_tx h38 h39 h40]
    by_cases h37 : x = ⟨#[115, 99, 97, 110]⟩
    · rw [if_pos h37, txW_k (k := 3) (by rw [h37]; decide) (by decide)]; exact eq_scan r
    simp only [h37, if_false]
    by_cases h36 : x = ⟨#[100, 114, 111, 112]⟩
    · rw [if_pos h36, txW_k (k := 5) (by rw [h36]; decide) (by decide)]; exact eq_key 5 rfl rfl (by decide) r
    simp only [h36, if_false]
    by_cases h35 : x = ⟨#[112, 117, 116]⟩
    · rw [if_pos h35, txW_k (k := 4) (by rw [h35]; decide) (by decide)]; exact eq_put r
    simp only [h35, if_false]
    by_cases h34 : x = ⟨#[103, 101, 116]⟩
    · rw [if_pos h34, txW_k (k := 2) (by rw [h34]; decide) (by decide)]; exact eq_key 2 rfl rfl (by decide) r
    simp only [h34, if_false]
    by_cases h33 : x = ⟨#[97, 98, 111, 114, 116]⟩
    · rw [if_pos h33, txW_k (k := 7) (by rw [h33]; decide) (by decide)]; exact eq_tx 7 rfl rfl (by decide) r
    simp only [h33, if_false]
    by_cases h32 : x = ⟨#[99, 111, 109, 109, 105, 116]⟩
    · rw [if_pos h32, txW_k (k := 6) (by rw [h32]; decide) (by decide)]; exact eq_tx 6 rfl rfl (by decide) r
    simp only [h32, if_false]
    by_cases h31 : x = ⟨#[98, 101, 103, 105, 110]⟩
    · rw [if_pos h31, txW_k (k := 1) (by rw [h31]; decide) (by decide)]; exact eq_tx 1 rfl rfl (by decide) r
    simp only [h31, if_false]
    rw [txW_no]
    · rfl
    · unfold kindsB
      simp only [placeB, Ne.symm h31, Ne.symm h32, Ne.symm h33, Ne.symm h34, Ne.symm h35, Ne.symm h36, Ne.symm h37, if_false]
      split <;> decide
/-- No piece is longer than what is cut. -/
theorem cut_len : ∀ (s : List UInt8), ∀ x ∈ cutL s, x.length ≤ s.length
  | [], x, hx => by simp [cutL] at hx; rw [hx]; exact Nat.le_refl _
  | b :: l, x, hx => by
    have ih := cut_len l
    unfold cutL at hx
    split at hx
    · rcases List.mem_cons.1 hx with rfl | hx
      · exact Nat.zero_le _
      · have := ih x hx; rw [List.length_cons]; omega
    · split at hx
      · simp at hx; rw [hx]; simp
      · rename_i y r e
        rcases List.mem_cons.1 hx with rfl | hx
        · have := ih y (by rw [e]; exact List.mem_cons_self); rw [List.length_cons, List.length_cons]; omega
        · have := ih x (by rw [e]; exact List.mem_cons_of_mem _ hx); rw [List.length_cons]; omega
theorem words_sz (s : ByteArray) (hs : s.size ≤ 65536) : ∀ x ∈ wordsB s, x.size ≤ 65536 := by
  intro x hx
  unfold wordsB at hx
  obtain ⟨l, hl, rfl⟩ := List.mem_map.1 hx
  have h1 := cut_len _ l (List.mem_filter.1 (by unfold wordsL at hl; exact hl)).1
  have h2 : s.data.toList.length = s.size := Array.length_toList
  have h3 : (kOf l).size = l.length := by unfold kOf; simp [ByteArray.size]
  omega
theorem words_n (s : ByteArray) (hs : s.size ≤ 65536) : (wordsB s).length ≤ 70000 := by
  unfold wordsB
  rw [List.length_map, ← wSt_words]
  have h2 : s.data.toList.length = s.size := Array.length_toList
  have := words_len s.data.toList (s.data.toList.length + 1)
  omega
end Go.Proofs.YtmogcfiioajaeaaDoor
