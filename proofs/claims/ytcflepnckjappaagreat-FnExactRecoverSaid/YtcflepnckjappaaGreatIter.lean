/-
  The keys of a history, sorted: the library's contracts on the sorted keys of a map, at this program.
-/
import Derived.Shelf.SlIter.Nil
import Derived.Shelf.SortM.Plain
import Derived.Shelf.SortM.SortNone
import Derived.Ground.GgzProg
import Derived.Ground.SlgmProg
import Derived.Test.YtcflepnckjappaaGreatRows
namespace Go.Proofs.YtcflepnckjappaaGreat
open Go.RowKit Go.Maps Go.Sort Go.Shelf

def Tryz.keys150_ren : Go.Shelf.Ren := ⟨fun | 7 => 150 | 10 => 230 | n => n, fun | 23 => 134 | 26 => 9 | 3 => 25 | 28 => 239 | 0 => 0 | 27 => 238 | 33 => 144 | 4 => 4 | n => n, fun | n => n⟩
theorem Tryz.keys150 : Go.Proofs.SlLaysZ.n7 Tryz.prog Tryz.keys150_ren := {
  mixed := by kernel_rfl
  f7 := ⟨Tryz.f150.name, by decide, Tryz.func150.trans (congrArg some (by kernel_rfl))⟩
  f10 := ⟨Tryz.f230.name, by decide, Tryz.func230.trans (congrArg some (by kernel_rfl))⟩
  t0 := Tryz.underlying0
  a0 := Tryz.isAgg0
  z0 := Tryz.sizeOf0
  v0 := Tryz.zeroValue0
  t4 := Tryz.underlying4
  a4 := Tryz.isAgg4
  z4 := Tryz.sizeOf4
  v4 := Tryz.zeroValue4
  t23 := Tryz.underlying134
  a23 := Tryz.isAgg134
  z23 := Tryz.sizeOf134
  v23 := Tryz.zeroValue134
  t26 := Tryz.underlying9
  a26 := Tryz.isAgg9
  z26 := Tryz.sizeOf9
  v26 := Tryz.zeroValue9
  t27 := Tryz.underlying238
  a27 := Tryz.isAgg238
  z27 := Tryz.sizeOf238
  v27 := Tryz.zeroValue238
  t28 := Tryz.underlying239
  a28 := Tryz.isAgg239
  z28 := Tryz.sizeOf239
  v28 := Tryz.zeroValue239
  t33 := Tryz.underlying144
  a33 := Tryz.isAgg144
  z33 := Tryz.sizeOf144
  v33 := Tryz.zeroValue144 }

def Tryz.sorted149_ren : Go.Shelf.Ren := ⟨fun | 6 => 149 | 8 => 228 | 9 => 229 | 11 => 290 | 13 => 249 | 12 => 291 | 23 => 311 | 24 => 312 | 14 => 328 | 15 => 329 | 16 => 330 | 17 => 331 | 18 => 332 | 19 => 333 | 20 => 334 | 21 => 335 | 22 => 336 | 25 => 358 | 26 => 342 | 27 => 343 | 28 => 359 | 29 => 360 | 30 => 361 | 31 => 371 | n => n, fun | 26 => 9 | 28 => 239 | 24 => 137 | 0 => 0 | 3 => 3 | 37 => 257 | 48 => 259 | 50 => 391 | 4 => 4 | 40 => 384 | 39 => 383 | 45 => 318 | 5 => 5 | 9 => 9 | 51 => 411 | 55 => 415 | 57 => 429 | 58 => 248 | 33 => 144 | n => n, fun | n => n⟩
theorem Tryz.sorted149 : Go.Proofs.SlLaysZ.n6 Tryz.prog Tryz.sorted149_ren := {
  mixed := by kernel_rfl
  f6 := ⟨Tryz.f149.name, by decide, Tryz.func149.trans (congrArg some (by kernel_rfl))⟩
  f8 := ⟨Tryz.f228.name, by decide, Tryz.func228.trans (congrArg some (by kernel_rfl))⟩
  f11 := ⟨Tryz.f290.name, by decide, Tryz.func290.trans (congrArg some (by kernel_rfl))⟩
  t0 := Tryz.underlying0
  a0 := Tryz.isAgg0
  z0 := Tryz.sizeOf0
  v0 := Tryz.zeroValue0
  t24 := Tryz.underlying137
  a24 := Tryz.isAgg137
  z24 := Tryz.sizeOf137
  v24 := Tryz.zeroValue137
  t26 := Tryz.underlying9
  a26 := Tryz.isAgg9
  z26 := Tryz.sizeOf9
  v26 := Tryz.zeroValue9
  t28 := Tryz.underlying239
  a28 := Tryz.isAgg239
  z28 := Tryz.sizeOf239
  v28 := Tryz.zeroValue239
  i26 := by kernel_rfl }

def Tryz.sort229_ren : Go.Shelf.Ren := ⟨fun | 6 => 229 | 8 => 249 | 9 => 291 | 19 => 311 | 20 => 312 | 21 => 328 | 22 => 329 | 23 => 330 | 24 => 331 | 25 => 332 | 26 => 333 | 27 => 334 | 28 => 335 | 29 => 336 | 36 => 358 | 31 => 342 | 32 => 343 | 37 => 359 | 38 => 360 | 39 => 361 | 41 => 371 | n => n, fun | 27 => 137 | 29 => 9 | 3 => 3 | 32 => 257 | 26 => 137 | 0 => 0 | 44 => 259 | 46 => 391 | 4 => 4 | 36 => 384 | 35 => 383 | 41 => 318 | 5 => 5 | 9 => 9 | 53 => 411 | 57 => 415 | 63 => 429 | 64 => 248 | n => n, fun | n => n⟩
theorem Tryz.sort229 : Go.Proofs.SlLaysM.n6 Tryz.prog Tryz.sort229_ren := {
  mixed := by kernel_rfl
  f6 := ⟨Tryz.f229.name, by decide, Tryz.func229.trans (congrArg some (by kernel_rfl))⟩
  f8 := Tryz.func249.trans (congrArg some (by kernel_rfl))
  f9 := ⟨Tryz.f291.name, by decide, Tryz.func291.trans (congrArg some (by kernel_rfl))⟩
  f19 := Tryz.func311.trans (congrArg some (by kernel_rfl))
  f20 := Tryz.func312.trans (congrArg some (by kernel_rfl))
  f21 := ⟨Tryz.f328.name, by decide, Tryz.func328.trans (congrArg some (by kernel_rfl))⟩
  f22 := ⟨Tryz.f329.name, by decide, Tryz.func329.trans (congrArg some (by kernel_rfl))⟩
  f23 := ⟨Tryz.f330.name, by decide, Tryz.func330.trans (congrArg some (by kernel_rfl))⟩
  f24 := ⟨Tryz.f331.name, by decide, Tryz.func331.trans (congrArg some (by kernel_rfl))⟩
  f25 := ⟨Tryz.f332.name, by decide, Tryz.func332.trans (congrArg some (by kernel_rfl))⟩
  f26 := ⟨Tryz.f333.name, by decide, Tryz.func333.trans (congrArg some (by kernel_rfl))⟩
  f27 := ⟨Tryz.f334.name, by decide, Tryz.func334.trans (congrArg some (by kernel_rfl))⟩
  f28 := ⟨Tryz.f335.name, by decide, Tryz.func335.trans (congrArg some (by kernel_rfl))⟩
  f29 := ⟨Tryz.f336.name, by decide, Tryz.func336.trans (congrArg some (by kernel_rfl))⟩
  f31 := Tryz.func342.trans (congrArg some (by kernel_rfl))
  f32 := Tryz.func343.trans (congrArg some (by kernel_rfl))
  f36 := ⟨Tryz.f358.name, by decide, Tryz.func358.trans (congrArg some (by kernel_rfl))⟩
  f37 := ⟨Tryz.f359.name, by decide, Tryz.func359.trans (congrArg some (by kernel_rfl))⟩
  f38 := ⟨Tryz.f360.name, by decide, Tryz.func360.trans (congrArg some (by kernel_rfl))⟩
  f39 := ⟨Tryz.f361.name, by decide, Tryz.func361.trans (congrArg some (by kernel_rfl))⟩
  f41 := ⟨Tryz.f371.name, by decide, Tryz.func371.trans (congrArg some (by kernel_rfl))⟩
  t0 := Tryz.underlying0
  a0 := Tryz.isAgg0
  z0 := Tryz.sizeOf0
  v0 := Tryz.zeroValue0
  t3 := Tryz.underlying3
  a3 := Tryz.isAgg3
  z3 := Tryz.sizeOf3
  v3 := Tryz.zeroValue3
  t4 := Tryz.underlying4
  a4 := Tryz.isAgg4
  z4 := Tryz.sizeOf4
  v4 := Tryz.zeroValue4
  t5 := Tryz.underlying5
  a5 := Tryz.isAgg5
  z5 := Tryz.sizeOf5
  v5 := Tryz.zeroValue5
  t9 := Tryz.underlying9
  a9 := Tryz.isAgg9
  z9 := Tryz.sizeOf9
  v9 := Tryz.zeroValue9
  t26 := Tryz.underlying137
  a26 := Tryz.isAgg137
  z26 := Tryz.sizeOf137
  v26 := Tryz.zeroValue137
  t27 := Tryz.underlying137
  a27 := Tryz.isAgg137
  z27 := Tryz.sizeOf137
  v27 := Tryz.zeroValue137
  t29 := Tryz.underlying9
  a29 := Tryz.isAgg9
  z29 := Tryz.sizeOf9
  v29 := Tryz.zeroValue9
  t32 := Tryz.underlying257
  a32 := Tryz.isAgg257
  z32 := Tryz.sizeOf257
  v32 := Tryz.zeroValue257
  t35 := Tryz.underlying383
  a35 := Tryz.isAgg383
  z35 := Tryz.sizeOf383
  v35 := Tryz.zeroValue383
  t36 := Tryz.underlying384
  a36 := Tryz.isAgg384
  z36 := Tryz.sizeOf384
  v36 := Tryz.zeroValue384
  t41 := Tryz.underlying318
  a41 := Tryz.isAgg318
  z41 := Tryz.sizeOf318
  v41 := Tryz.zeroValue318
  t44 := Tryz.underlying259
  a44 := Tryz.isAgg259
  z44 := Tryz.sizeOf259
  v44 := Tryz.zeroValue259
  t46 := Tryz.underlying391
  a46 := Tryz.isAgg391
  z46 := Tryz.sizeOf391
  v46 := Tryz.zeroValue391
  t53 := Tryz.underlying411
  a53 := Tryz.isAgg411
  z53 := Tryz.sizeOf411
  v53 := Tryz.zeroValue411
  t57 := Tryz.underlying415
  a57 := Tryz.isAgg415
  z57 := Tryz.sizeOf415
  v57 := Tryz.zeroValue415
  t63 := Tryz.underlying429
  a63 := Tryz.isAgg429
  z63 := Tryz.sizeOf429
  v63 := Tryz.zeroValue429
  t64 := Tryz.underlying248
  a64 := Tryz.isAgg248
  z64 := Tryz.sizeOf248
  v64 := Tryz.zeroValue248 }

theorem Tryz.sorts149 (m : Nat) : AnyZ.SortsIn Tryz.prog Tryz.sorted149_ren Fence.wide m :=
  ⟨fun blk off cap ss W hH hblk hsz => callsIn_wide.2 (AnyM.slices_Sort_string Tryz.sort229 blk off cap ss W hH hblk hsz),
   fun p cap W => callsIn_wide.2 (AnyM.slices_Sort_string_none Tryz.sort229 p cap W)⟩

theorem Tryz.maps_Keys_150 (mb : Option Nat) (W : World) : CallsIn Fence.wide 5 Tryz.prog 150 #[.map mb] W fun e w' => e = .returned (.func (.func 230) #[] #[.pointer (some ⟨W.heap.size, 0, none⟩)]) ∧ w' = W.alloc (.cells #[.map mb] 134) :=
  AnyZ.keys_in Tryz.keys150 Fence.wide 5 trivial rfl mb W

set_option maxHeartbeats 1000000 in
theorem Tryz.slices_Sorted_keys_149_150 {H : Type} (b nn : Nat) (D0 : DataW H) (R : Value → Option (DataW H × List MemPlace)) (w : World) (hown : w.ownsMap Tryz.prog 9 R b nn D0) (hmax : Maps.size D0 ≤ maxLen) (hbytes : Maps.size D0 * 16 ≤ 140737488355328) :
    CallsIn Fence.wide 5 Tryz.prog 149 #[.func (.func 230) #[] #[.pointer (some ⟨w.heap.size, 0, none⟩)]] (w.alloc (.cells #[.map (some b)] 134)) fun e w' => ∃ (v : Value) (ss : List (List UInt8)), e = .returned v ∧ ss.Perm (strKeys D0) ∧
      w'.ownsRow (w.alloc (.cells #[.map (some b)] 134)).heap.size 9 1 v ss.length ((ss.mergeSort (fun x y => decide (x ≤ y))).map encStr) ∧ (v = .slice none 0 0 ↔ ss = []) ∧ Below (w.alloc (.cells #[.map (some b)] 134)).heap.size (w.alloc (.cells #[.map (some b)] 134)) w' := by
  have hbl := hown.lt
  have hseq : SeqGives Fence.wide 2 Tryz.prog 230 #[.pointer (some ⟨w.heap.size, 0, none⟩)] encStr (fun ss => ss.Perm (strKeys D0)) (Maps.size D0) (w.alloc (.cells #[.map (some b)] 134)) :=
    AnyZ.keys_gives (ρ := Tryz.keys150_ren) { Tryz.keys150 with } Fence.wide _ trivial rfl (by omega) w.heap.size b nn D0 _ (by simp) (by simp) (by
      obtain ⟨es, clock, hb, Ft, hs, hD⟩ := hown
      exact ⟨es, clock, (Below.heap_alloc _ _ b hbl).trans hb, Ft, hs, hD⟩)
  exact AnyZ.sorted_in Tryz.sorted149 Fence.wide 5 trivial trivial trivial trivial rfl (by omega) (Tryz.sorts149 _) (enters_of Tryz.func229 (by kernel_rfl) rfl) 230 #[.pointer (some ⟨w.heap.size, 0, none⟩)] trivial (enters_of Tryz.func230 (by kernel_rfl) rfl) _ _ hmax hbytes _ hseq

end Go.Proofs.YtcflepnckjappaaGreat
