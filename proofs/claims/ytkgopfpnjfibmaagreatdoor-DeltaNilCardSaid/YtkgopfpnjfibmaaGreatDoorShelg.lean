/-
  The library's functions that this seat's walks meet, by the contracts of the kit's shelf, at this translation's numbers. No condition of its own.
-/
import Derived.Shelf.Strings.Trim
import Derived.Shelf.Small.Utf8
import Derived.Shelf.Small.Bits
import Derived.Shelf.Small.Strs
import Derived.Shelf.Small.Wraps
import Derived.Shelf.Strconv.Itoa0
import Derived.Shelf.Strings.Search1
import Derived.Shelf.Sort.Plain
import Derived.Shelf.Strings.Prefix
import Derived.Shelf.Strings.Runes
import Derived.Shelf.Strings.AsciiSet
import Derived.Shelf.Unicode.DecodeSlow
import Derived.Shelf.Slices.Turned
import Derived.Shelf.Slices.Reverse
import Derived.Ground.Names2Prog
import Derived.Shelf.Slices.Clone
import Derived.Shelf.Slices.CompactI
import Derived.Shelf.Slices.SearchI
import Derived.Shelf.Slices.Cells
import Derived.Shelf.Slices.In.SortNone
import Derived.Test.YtkgopfpnjfibmaaGreatDoorProg
import Derived.Test.YtkgopfpnjfibmaaGreatDoorShelf
namespace Go.Proofs
open Go.Shelf
def Tryz.lays189_ren : Go.Shelf.Ren := ⟨fun | 189 => 301 | 125 => 321 | 257 => 320 | 128 => 336 | 129 => 337 | 294 => 328 | 295 => 329 | 296 => 330 | 297 => 331 | 298 => 332 | 299 => 333 | 216 => 273 | 300 => 334 | 301 => 335 | 328 => 339 | 329 => 340 | 330 => 341 | 331 => 342 | 332 => 343 | 215 => 307 | 343 => 344 | n => n, fun | 28 => 55 | 3 => 3 | 46 => 371 | 0 => 0 | 51 => 421 | 53 => 401 | 4 => 4 | 183 => 415 | 182 => 414 | 131 => 194 | 5 => 5 | 9 => 9 | 218 => 423 | 222 => 427 | 228 => 429 | 229 => 430 | n => n, fun | n => n⟩
theorem Tryz.lays189 : Go.Proofs.Lays.n189 Tryz.prog Tryz.lays189_ren := {
  mixed := by kernel_rfl
  f125 := Tryz.func321.trans (congrArg some (by kernel_rfl))
  f128 := Tryz.func336.trans (congrArg some (by kernel_rfl))
  f129 := Tryz.func337.trans (congrArg some (by kernel_rfl))
  f189 := Tryz.func301.trans (congrArg some (by kernel_rfl))
  f215 := Tryz.func307.trans (congrArg some (by kernel_rfl))
  f216 := Tryz.func273.trans (congrArg some (by kernel_rfl))
  f257 := Tryz.func320.trans (congrArg some (by kernel_rfl))
  f294 := Tryz.func328.trans (congrArg some (by kernel_rfl))
  f295 := Tryz.func329.trans (congrArg some (by kernel_rfl))
  f296 := Tryz.func330.trans (congrArg some (by kernel_rfl))
  f297 := Tryz.func331.trans (congrArg some (by kernel_rfl))
  f298 := Tryz.func332.trans (congrArg some (by kernel_rfl))
  f299 := Tryz.func333.trans (congrArg some (by kernel_rfl))
  f300 := Tryz.func334.trans (congrArg some (by kernel_rfl))
  f301 := Tryz.func335.trans (congrArg some (by kernel_rfl))
  f328 := Tryz.func339.trans (congrArg some (by kernel_rfl))
  f329 := Tryz.func340.trans (congrArg some (by kernel_rfl))
  f330 := Tryz.func341.trans (congrArg some (by kernel_rfl))
  f331 := Tryz.func342.trans (congrArg some (by kernel_rfl))
  f332 := Tryz.func343.trans (congrArg some (by kernel_rfl))
  f343 := Tryz.func344.trans (congrArg some (by kernel_rfl))
  t0 := Tryz.underlying0
  a0 := Tryz.isAgg0
  z0 := Tryz.sizeOf0
  v0 := Tryz.zeroValue0
  t3 := Tryz.underlying3
  a3 := Tryz.isAgg3
  z3 := Tryz.sizeOf3
  v3 := Tryz.zeroValue3
  t4 := Tryz.underlying4
  a4 := Tryz.isAgg4
  z4 := Tryz.sizeOf4
  v4 := Tryz.zeroValue4
  t5 := Tryz.underlying5
  a5 := Tryz.isAgg5
  z5 := Tryz.sizeOf5
  v5 := Tryz.zeroValue5
  t9 := Tryz.underlying9
  a9 := Tryz.isAgg9
  z9 := Tryz.sizeOf9
  v9 := Tryz.zeroValue9
  t28 := Tryz.underlying55
  a28 := Tryz.isAgg55
  z28 := Tryz.sizeOf55
  v28 := Tryz.zeroValue55
  t46 := Tryz.underlying371
  a46 := Tryz.isAgg371
  z46 := Tryz.sizeOf371
  v46 := Tryz.zeroValue371
  t51 := Tryz.underlying421
  a51 := Tryz.isAgg421
  z51 := Tryz.sizeOf421
  v51 := Tryz.zeroValue421
  t53 := Tryz.underlying401
  a53 := Tryz.isAgg401
  z53 := Tryz.sizeOf401
  v53 := Tryz.zeroValue401
  t131 := Tryz.underlying194
  a131 := Tryz.isAgg194
  z131 := Tryz.sizeOf194
  v131 := Tryz.zeroValue194
  t182 := Tryz.underlying414
  a182 := Tryz.isAgg414
  z182 := Tryz.sizeOf414
  v182 := Tryz.zeroValue414
  t183 := Tryz.underlying415
  a183 := Tryz.isAgg415
  z183 := Tryz.sizeOf415
  v183 := Tryz.zeroValue415
  t218 := Tryz.underlying423
  a218 := Tryz.isAgg423
  z218 := Tryz.sizeOf423
  v218 := Tryz.zeroValue423
  t222 := Tryz.underlying427
  a222 := Tryz.isAgg427
  z222 := Tryz.sizeOf427
  v222 := Tryz.zeroValue427
  t228 := Tryz.underlying429
  a228 := Tryz.isAgg429
  z228 := Tryz.sizeOf429
  v228 := Tryz.zeroValue429
  t229 := Tryz.underlying430
  a229 := Tryz.isAgg430
  z229 := Tryz.sizeOf430
  v229 := Tryz.zeroValue430 }
open Go.Sort Go.RowKit in
theorem Tryz.slices_Sort_int (blk off cap : Nat) (zs : List Int) (w : World) (hH : Holds (Value.int .i64) w blk off zs.toArray) (hblk : blk < w.heap.size) (hsz : zs.length < 4611686018427387904) :
    Calls Tryz.prog 301 #[.slice (some ⟨blk, off, none⟩) zs.length cap] w fun e w' =>
      e = .returned (.tuple #[]) ∧ ∃ n os, w' = grow (putRow (Value.int .i64) (Sort.ahead w n) blk off (zs.mergeSort fun x y => decide (x ≤ y)).toArray) os := Any.slices_Sort_int Tryz.lays189 blk off cap zs w hH hblk hsz
def Tryz.laysNm220_ren : Go.Shelf.Ren := ⟨fun | 20 => 302 | n => n, fun | 22 => 55 | 3 => 3 | 4 => 4 | 0 => 0 | n => n, fun | n => n⟩
theorem Tryz.laysNm220 : Go.Proofs.Lays2.n20 Tryz.prog Tryz.laysNm220_ren := {
  mixed := by kernel_rfl
  f20 := Tryz.func302.trans (congrArg some (by kernel_rfl))
  t0 := Tryz.underlying0
  a0 := Tryz.isAgg0
  z0 := Tryz.sizeOf0
  v0 := Tryz.zeroValue0
  t3 := Tryz.underlying3
  a3 := Tryz.isAgg3
  z3 := Tryz.sizeOf3
  v3 := Tryz.zeroValue3
  t4 := Tryz.underlying4
  a4 := Tryz.isAgg4
  z4 := Tryz.sizeOf4
  v4 := Tryz.zeroValue4
  t22 := Tryz.underlying55
  a22 := Tryz.isAgg55
  z22 := Tryz.sizeOf55
  v22 := Tryz.zeroValue55
  i3 := by kernel_rfl }
open Go.RowKit Go.Lib Go.Sort in
theorem Tryz.slices_Compact_int (blk off cap : Nat) (zs : List Int) (w : World) (hH : Holds (Value.int .i64) w blk off zs.toArray) (hsz : zs.length ≤ 9223372036854775807) (hcap : zs.length ≤ cap) :
    Calls Tryz.prog 302 #[.slice (some ⟨blk, off, none⟩) zs.length cap] w fun e w' => e = .returned (.slice (some ⟨blk, off, none⟩) (Lib.compact zs).length cap) ∧ ∃ q, w' = putRow (Value.int .i64) (Sort.ahead w q) blk off (Lib.compact zs ++ List.replicate (zs.length - (Lib.compact zs).length) 0).toArray := Any.slices_Compact_int Tryz.laysNm220 blk off cap zs w hH hsz hcap
open Go.RowKit Go.Lib Go.Sort in
theorem Tryz.slices_Compact_int_empty (a : Option Addr) (cap : Nat) (w : World) :
    Calls Tryz.prog 302 #[.slice a 0 cap] w fun e w' => e = .returned (.slice a 0 cap) ∧ w' = w := Any.slices_Compact_int_empty Tryz.laysNm220 a cap w
open Go.RowKit Go.Sort in
theorem Tryz.slices_Sort_int_none (p : Option Addr) (cap : Nat) (w : World) :
    Calls Tryz.prog 301 #[.slice p 0 cap] w fun e w' => e = .returned (.tuple #[]) ∧ w' = w := Any.slices_Sort_int_none Tryz.lays189 p cap w

end Go.Proofs
