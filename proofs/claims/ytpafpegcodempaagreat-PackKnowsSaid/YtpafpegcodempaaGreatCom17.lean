import Derived.Test.YtpafpegcodempaaGreatCom13
import Derived.Test.YtpafpegcodempaaGreatCom4
import Derived.Test.YtpafpegcodempaaGreatCom16
import Derived.Test.YtpafpegcodempaaGreatCom11
import Derived.Test.YtpafpegcodempaaGreatCom5
import Derived.Shelf.Small.Bits
import Derived.Shelf.Small.Strs
import Derived.Shelf.Small.Wraps
import Derived.Shelf.Strconv.Itoa0
import Derived.Shelf.LaysM
import Derived.Shelf.Strconv.Clone
import Derived.Shelf.Strings.Search1
import Derived.Shelf.Strings.Search2
import Derived.Shelf.Strings.Cut
import Derived.Shelf.Strings.Shaped
import Derived.Shelf.Sort.Plain
import Derived.Shelf.Strings.LastIndex
import Derived.Shelf.Slices.CompactS
import Derived.Shelf.Slices.SearchI
import Derived.Shelf.Slices.Cells
import Derived.Shelf.Slices.In.SortNone
import Derived.Shelf.SlLaysF0
import Derived.Shelf.SlicesG.Cmp
import Derived.Shelf.Lays8
import Derived.Shelf.SlicesQ.IndexFunc
import Derived.Shelf.SlicesQ.Equal
import Derived.Shelf.SlicesE.Clone
import Derived.Test.YtpafpegcodempaaGreatProg
import Derived.Shelf.Spec.SlicesGrow
import Derived.Shelf.GgSortFunc.InsertionK
import Derived.Shelf.SlSortCmp.NoneTotal
import Derived.Great.Walk
import Derived.Lib.Bytealg
import Derived.Lib.Join
import Derived.Lib.LastIndexByte
import Derived.Lib.Strings
set_option maxRecDepth 100000
set_option linter.all false
namespace Go.Proofs
open Go.Shelf
open Go.RowKit in
def Tryz.lays106_ren : Go.Shelf.Ren := ⟨fun | 106 => 387 | 213 => 415 | 265 => 453 | n => n, fun | 9 => 9 | 3 => 3 | n => n, fun | n => n⟩
theorem Tryz.lays106 : Go.Proofs.Lays.n106 Tryz.prog Tryz.lays106_ren := {
 mixed := by kernel_rfl
 f106 := Tryz.func387.trans (congrArg some (by kernel_rfl))
 f213 := Tryz.func415.trans (congrArg some (by kernel_rfl))
 f265 := Tryz.func453.trans (congrArg some (by kernel_rfl))
 t3 := Tryz.underlying3
 a3 := Tryz.isAgg3
 z3 := Tryz.sizeOf3
 v3 := Tryz.zeroValue3
 t9 := Tryz.underlying9
 a9 := Tryz.isAgg9
 z9 := Tryz.sizeOf9
 v9 := Tryz.zeroValue9 }
open Go.RowKit in
theorem Tryz.strings_Compare (a b : ByteArray) (w : World) :
  Calls Tryz.prog 387 #[.string a, .string b] w fun e w' => e = .returned (.int .i64 (Lib.compareBytes a.data.toList b.data.toList)) ∧ w' = w := Any.strings_Compare Tryz.lays106 a b w
open Go.RowKit in
def Tryz.lays122_ren : Go.Shelf.Ren := ⟨fun | 122 => 202 | 215 => 291 | n => n, fun | 3 => 3 | 4 => 4 | n => n, fun | n => n⟩
theorem Tryz.lays122 : Go.Proofs.Lays.n122 Tryz.prog Tryz.lays122_ren := {
 mixed := by kernel_rfl
 f122 := Tryz.func202.trans (congrArg some (by kernel_rfl))
 f215 := Tryz.func291.trans (congrArg some (by kernel_rfl))
 t3 := Tryz.underlying3
 a3 := Tryz.isAgg3
 z3 := Tryz.sizeOf3
 v3 := Tryz.zeroValue3
 t4 := Tryz.underlying4
 a4 := Tryz.isAgg4
 z4 := Tryz.sizeOf4
 v4 := Tryz.zeroValue4 }
open Go.RowKit in
theorem Tryz.cmp_Compare_int (x y : Int) (w : World) :
  Calls Tryz.prog 202 #[.int .i64 x, .int .i64 y] w fun e w' => e = .returned (.int .i64 (Lib.compareInt x y)) ∧ w' = w := Any.cmp_Compare_int Tryz.lays122 x y w
open Go.RowKit in
open Go.RowKit Go.Lib in
def Tryz.lays219_ren : Go.Shelf.Ren := ⟨fun | 219 => 459 | 217 => 476 | 225 => 477 | 224 => 478 | 267 => 479 | 266 => 485 | 314 => 486 | n => n, fun | 9 => 9 | 3 => 3 | 4 => 4 | 5 => 5 | 46 => 359 | 146 => 411 | 51 => 360 | n => n, fun | 1 => 0 | n => n⟩
theorem Tryz.lays219 : Go.Proofs.Lays.n219 Tryz.prog Tryz.lays219_ren := {
 mixed := by kernel_rfl
 f217 := Tryz.func476.trans (congrArg some (by kernel_rfl))
 f219 := Tryz.func459.trans (congrArg some (by kernel_rfl))
 f224 := Tryz.func478.trans (congrArg some (by kernel_rfl))
 f225 := Tryz.func477.trans (congrArg some (by kernel_rfl))
 f266 := Tryz.func485.trans (congrArg some (by kernel_rfl))
 f267 := Tryz.func479.trans (congrArg some (by kernel_rfl))
 f314 := Tryz.func486.trans (congrArg some (by kernel_rfl))
 t3 := Tryz.underlying3
 a3 := Tryz.isAgg3
 z3 := Tryz.sizeOf3
 v3 := Tryz.zeroValue3
 t4 := Tryz.underlying4
 a4 := Tryz.isAgg4
 z4 := Tryz.sizeOf4
 v4 := Tryz.zeroValue4
 t5 := Tryz.underlying5
 a5 := Tryz.isAgg5
 z5 := Tryz.sizeOf5
 v5 := Tryz.zeroValue5
 t9 := Tryz.underlying9
 a9 := Tryz.isAgg9
 z9 := Tryz.sizeOf9
 v9 := Tryz.zeroValue9
 t46 := Tryz.underlying359
 a46 := Tryz.isAgg359
 z46 := Tryz.sizeOf359
 v46 := Tryz.zeroValue359
 t51 := Tryz.underlying360
 a51 := Tryz.isAgg360
 z51 := Tryz.sizeOf360
 v51 := Tryz.zeroValue360
 t146 := Tryz.underlying411
 a146 := Tryz.isAgg411
 z146 := Tryz.sizeOf411
 v146 := Tryz.zeroValue411
 g1 := by kernel_rfl }
open Go.RowKit Go.Lib in
theorem Tryz.stringslite_Index_one (s : ByteArray) (c : UInt8) (w : World) :
  Calls Tryz.prog 459 #[.string s, .string ⟨#[c]⟩] w fun e w' => e = .returned (.int .i64 (Lib.indexByte s.data.toList c)) ∧ w' = w := Any.stringslite_Index_one Tryz.lays219 s c w
open Go.RowKit Go.Lib in
def Tryz.lays190_ren : Go.Shelf.Ren := ⟨fun | 190 => 353 | 125 => 379 | 258 => 389 | 128 => 411 | 129 => 412 | 302 => 417 | 303 => 418 | 304 => 419 | 305 => 420 | 306 => 421 | 307 => 422 | 308 => 423 | 309 => 424 | 310 => 425 | 333 => 454 | 329 => 433 | 330 => 434 | 334 => 455 | 335 => 456 | 336 => 457 | 344 => 467 | n => n, fun | 31 => 152 | 9 => 9 | 3 => 3 | 46 => 359 | 0 => 0 | 51 => 360 | 53 => 401 | 4 => 4 | 183 => 393 | 182 => 392 | 131 => 397 | 5 => 5 | 218 => 415 | 222 => 419 | 228 => 434 | 229 => 435 | n => n, fun | n => n⟩
theorem Tryz.lays190 : Go.Proofs.Lays.n190 Tryz.prog Tryz.lays190_ren := {
 mixed := by kernel_rfl
 f125 := Tryz.func379.trans (congrArg some (by kernel_rfl))
 f128 := Tryz.func411.trans (congrArg some (by kernel_rfl))
 f129 := Tryz.func412.trans (congrArg some (by kernel_rfl))
 f190 := Tryz.func353.trans (congrArg some (by kernel_rfl))
 f258 := Tryz.func389.trans (congrArg some (by kernel_rfl))
 f302 := Tryz.func417.trans (congrArg some (by kernel_rfl))
 f303 := Tryz.func418.trans (congrArg some (by kernel_rfl))
 f304 := Tryz.func419.trans (congrArg some (by kernel_rfl))
 f305 := Tryz.func420.trans (congrArg some (by kernel_rfl))
 f306 := Tryz.func421.trans (congrArg some (by kernel_rfl))
 f307 := Tryz.func422.trans (congrArg some (by kernel_rfl))
 f308 := Tryz.func423.trans (congrArg some (by kernel_rfl))
 f309 := Tryz.func424.trans (congrArg some (by kernel_rfl))
 f310 := Tryz.func425.trans (congrArg some (by kernel_rfl))
 f329 := Tryz.func433.trans (congrArg some (by kernel_rfl))
 f330 := Tryz.func434.trans (congrArg some (by kernel_rfl))
 f333 := Tryz.func454.trans (congrArg some (by kernel_rfl))
 f334 := Tryz.func455.trans (congrArg some (by kernel_rfl))
 f335 := Tryz.func456.trans (congrArg some (by kernel_rfl))
 f336 := Tryz.func457.trans (congrArg some (by kernel_rfl))
 f344 := Tryz.func467.trans (congrArg some (by kernel_rfl))
 t0 := Tryz.underlying0
 a0 := Tryz.isAgg0
 z0 := Tryz.sizeOf0
 v0 := Tryz.zeroValue0
 t3 := Tryz.underlying3
 a3 := Tryz.isAgg3
 z3 := Tryz.sizeOf3
 v3 := Tryz.zeroValue3
 t4 := Tryz.underlying4
 a4 := Tryz.isAgg4
 z4 := Tryz.sizeOf4
 v4 := Tryz.zeroValue4
 t5 := Tryz.underlying5
 a5 := Tryz.isAgg5
 z5 := Tryz.sizeOf5
 v5 := Tryz.zeroValue5
 t9 := Tryz.underlying9
 a9 := Tryz.isAgg9
 z9 := Tryz.sizeOf9
 v9 := Tryz.zeroValue9
 t31 := Tryz.underlying152
 a31 := Tryz.isAgg152
 z31 := Tryz.sizeOf152
 v31 := Tryz.zeroValue152
 t46 := Tryz.underlying359
 a46 := Tryz.isAgg359
 z46 := Tryz.sizeOf359
 v46 := Tryz.zeroValue359
 t51 := Tryz.underlying360
 a51 := Tryz.isAgg360
 z51 := Tryz.sizeOf360
 v51 := Tryz.zeroValue360
 t53 := Tryz.underlying401
 a53 := Tryz.isAgg401
 z53 := Tryz.sizeOf401
 v53 := Tryz.zeroValue401
 t131 := Tryz.underlying397
 a131 := Tryz.isAgg397
 z131 := Tryz.sizeOf397
 v131 := Tryz.zeroValue397
 t182 := Tryz.underlying392
 a182 := Tryz.isAgg392
 z182 := Tryz.sizeOf392
 v182 := Tryz.zeroValue392
 t183 := Tryz.underlying393
 a183 := Tryz.isAgg393
 z183 := Tryz.sizeOf393
 v183 := Tryz.zeroValue393
 t218 := Tryz.underlying415
 a218 := Tryz.isAgg415
 z218 := Tryz.sizeOf415
 v218 := Tryz.zeroValue415
 t222 := Tryz.underlying419
 a222 := Tryz.isAgg419
 z222 := Tryz.sizeOf419
 v222 := Tryz.zeroValue419
 t228 := Tryz.underlying434
 a228 := Tryz.isAgg434
 z228 := Tryz.sizeOf434
 v228 := Tryz.zeroValue434
 t229 := Tryz.underlying435
 a229 := Tryz.isAgg435
 z229 := Tryz.sizeOf435
 v229 := Tryz.zeroValue435 }
open Go.Sort Go.RowKit in
theorem Tryz.slices_Sort_string (blk off cap : Nat) (ss : List (List UInt8)) (w : World) (hH : Holds encStr w blk off ss.toArray) (hblk : blk < w.heap.size) (hsz : ss.length < 4611686018427387904) :
  Calls Tryz.prog 353 #[.slice (some ⟨blk, off, none⟩) ss.length cap] w fun e w' =>
   e = .returned (.tuple #[]) ∧ ∃ n os, w' = grow (putRow encStr (Sort.ahead w n) blk off (ss.mergeSort fun x y => decide (x ≤ y)).toArray) os := Any.slices_Sort_string Tryz.lays190 blk off cap ss w hH hblk hsz
open Go.RowKit Go.Lib in
def Tryz.lays148_ren : Go.Shelf.Ren := ⟨fun | 148 => 355 | 222 => 390 | 223 => 391 | 269 => 426 | n => n, fun | 9 => 9 | 3 => 3 | 4 => 4 | 5 => 5 | 146 => 411 | 51 => 360 | 46 => 359 | n => n, fun | n => n⟩
theorem Tryz.lays148 : Go.Proofs.Lays.n148 Tryz.prog Tryz.lays148_ren := {
 mixed := by kernel_rfl
 f148 := Tryz.func355.trans (congrArg some (by kernel_rfl))
 f222 := Tryz.func390.trans (congrArg some (by kernel_rfl))
 f223 := Tryz.func391.trans (congrArg some (by kernel_rfl))
 f269 := Tryz.func426.trans (congrArg some (by kernel_rfl))
 t3 := Tryz.underlying3
 a3 := Tryz.isAgg3
 z3 := Tryz.sizeOf3
 v3 := Tryz.zeroValue3
 t4 := Tryz.underlying4
 a4 := Tryz.isAgg4
 z4 := Tryz.sizeOf4
 v4 := Tryz.zeroValue4
 t5 := Tryz.underlying5
 a5 := Tryz.isAgg5
 z5 := Tryz.sizeOf5
 v5 := Tryz.zeroValue5
 t9 := Tryz.underlying9
 a9 := Tryz.isAgg9
 z9 := Tryz.sizeOf9
 v9 := Tryz.zeroValue9
 t46 := Tryz.underlying359
 a46 := Tryz.isAgg359
 z46 := Tryz.sizeOf359
 v46 := Tryz.zeroValue359
 t51 := Tryz.underlying360
 a51 := Tryz.isAgg360
 z51 := Tryz.sizeOf360
 v51 := Tryz.zeroValue360
 t146 := Tryz.underlying411
 a146 := Tryz.isAgg411
 z146 := Tryz.sizeOf411
 v146 := Tryz.zeroValue411 }
open Go.RowKit Go.Lib in
theorem Tryz.strings_LastIndex_one (s sub : ByteArray) (h1 : sub.size = 1) (hs : s.size < 4611686018427387904) (w : World) :
  Calls Tryz.prog 355 #[.string s, .string sub] w fun e w' => e = .returned (.int .i64 (Lib.lastIndexByte s ((sub[0]'(by omega)).toNat : Int))) ∧ w' = w := Any.strings_LastIndex_one Tryz.lays148 s sub h1 hs w
open Go.RowKit Go.Lib in
def Tryz.lays194_ren : Go.Shelf.Ren := ⟨fun | 194 => 354 | n => n, fun | 31 => 152 | 9 => 9 | 3 => 3 | 4 => 4 | 0 => 0 | n => n, fun | n => n⟩
theorem Tryz.lays194 : Go.Proofs.Lays.n194 Tryz.prog Tryz.lays194_ren := {
 mixed := by kernel_rfl
 f194 := Tryz.func354.trans (congrArg some (by kernel_rfl))
 t0 := Tryz.underlying0
 a0 := Tryz.isAgg0
 z0 := Tryz.sizeOf0
 v0 := Tryz.zeroValue0
 t3 := Tryz.underlying3
 a3 := Tryz.isAgg3
 z3 := Tryz.sizeOf3
 v3 := Tryz.zeroValue3
 t4 := Tryz.underlying4
 a4 := Tryz.isAgg4
 z4 := Tryz.sizeOf4
 v4 := Tryz.zeroValue4
 t9 := Tryz.underlying9
 a9 := Tryz.isAgg9
 z9 := Tryz.sizeOf9
 v9 := Tryz.zeroValue9
 t31 := Tryz.underlying152
 a31 := Tryz.isAgg152
 z31 := Tryz.sizeOf152
 v31 := Tryz.zeroValue152 }
open Go.RowKit Go.Lib Go.Sort in
theorem Tryz.slices_Compact_string (blk off cap : Nat) (zs : List (List UInt8)) (w : World) (hH : Holds encStr w blk off zs.toArray) (hsz : zs.length ≤ 9223372036854775807) (hcap : zs.length ≤ cap) :
  Calls Tryz.prog 354 #[.slice (some ⟨blk, off, none⟩) zs.length cap] w fun e w' => e = .returned (.slice (some ⟨blk, off, none⟩) (Lib.compact zs).length cap) ∧ ∃ q, w' = putRow encStr (Sort.ahead w q) blk off (Lib.compact zs ++ List.replicate (zs.length - (Lib.compact zs).length) []).toArray := Any.slices_Compact_string Tryz.lays194 blk off cap zs w hH hsz hcap
open Go.RowKit Go.Lib Go.Sort in
theorem Tryz.slices_Compact_string_empty (a : Option Addr) (cap : Nat) (w : World) :
  Calls Tryz.prog 354 #[.slice a 0 cap] w fun e w' => e = .returned (.slice a 0 cap) ∧ w' = w := Any.slices_Compact_string_empty Tryz.lays194 a cap w
open Go.RowKit Go.Lib in
open Go.RowKit Go.Lib Go.Sort in
open Go.RowKit Go.Sort in
theorem Tryz.slices_Sort_string_none (p : Option Addr) (cap : Nat) (w : World) :
  Calls Tryz.prog 353 #[.slice p 0 cap] w fun e w' => e = .returned (.tuple #[]) ∧ w' = w := Any.slices_Sort_string_none Tryz.lays190 p cap w
def Tryz.sortRg_ren : Go.Shelf.Ren := ⟨fun | 6 => 427 | 15 => 379 | 14 => 458 | 28 => 411 | 29 => 412 | 20 => 468 | 21 => 469 | 22 => 470 | 23 => 471 | 24 => 472 | 25 => 473 | 26 => 474 | 27 => 475 | 46 => 482 | 47 => 433 | 48 => 434 | 49 => 483 | 50 => 484 | 57 => 487 | n => n, fun | 22 => 154 | 24 => 114 | 25 => 414 | 3 => 3 | 39 => 359 | 0 => 0 | 53 => 360 | 55 => 401 | 4 => 4 | 46 => 393 | 45 => 392 | 50 => 397 | 5 => 5 | 9 => 9 | 66 => 415 | 70 => 419 | 76 => 434 | 77 => 435 | n => n, fun | n => n⟩
theorem Tryz.sortRg : Go.Proofs.SlLaysF0.n6 Tryz.prog Tryz.sortRg_ren := {
 mixed := by kernel_rfl
 f6 := ⟨Tryz.f427.name, by decide, Tryz.func427.trans (congrArg some (by kernel_rfl))⟩
 f14 := ⟨Tryz.f458.name, by decide, Tryz.func458.trans (congrArg some (by kernel_rfl))⟩
 f15 := Tryz.func379.trans (congrArg some (by kernel_rfl))
 f20 := ⟨Tryz.f468.name, by decide, Tryz.func468.trans (congrArg some (by kernel_rfl))⟩
 f21 := ⟨Tryz.f469.name, by decide, Tryz.func469.trans (congrArg some (by kernel_rfl))⟩
 f22 := ⟨Tryz.f470.name, by decide, Tryz.func470.trans (congrArg some (by kernel_rfl))⟩
 f23 := ⟨Tryz.f471.name, by decide, Tryz.func471.trans (congrArg some (by kernel_rfl))⟩
 f24 := ⟨Tryz.f472.name, by decide, Tryz.func472.trans (congrArg some (by kernel_rfl))⟩
 f25 := ⟨Tryz.f473.name, by decide, Tryz.func473.trans (congrArg some (by kernel_rfl))⟩
 f26 := ⟨Tryz.f474.name, by decide, Tryz.func474.trans (congrArg some (by kernel_rfl))⟩
 f27 := ⟨Tryz.f475.name, by decide, Tryz.func475.trans (congrArg some (by kernel_rfl))⟩
 f28 := Tryz.func411.trans (congrArg some (by kernel_rfl))
 f29 := Tryz.func412.trans (congrArg some (by kernel_rfl))
 f46 := ⟨Tryz.f482.name, by decide, Tryz.func482.trans (congrArg some (by kernel_rfl))⟩
 f47 := Tryz.func433.trans (congrArg some (by kernel_rfl))
 f48 := Tryz.func434.trans (congrArg some (by kernel_rfl))
 f49 := ⟨Tryz.f483.name, by decide, Tryz.func483.trans (congrArg some (by kernel_rfl))⟩
 f50 := ⟨Tryz.f484.name, by decide, Tryz.func484.trans (congrArg some (by kernel_rfl))⟩
 f57 := ⟨Tryz.f487.name, by decide, Tryz.func487.trans (congrArg some (by kernel_rfl))⟩
 t0 := Tryz.underlying0
 a0 := Tryz.isAgg0
 z0 := Tryz.sizeOf0
 v0 := Tryz.zeroValue0
 t3 := Tryz.underlying3
 a3 := Tryz.isAgg3
 z3 := Tryz.sizeOf3
 v3 := Tryz.zeroValue3
 t4 := Tryz.underlying4
 a4 := Tryz.isAgg4
 z4 := Tryz.sizeOf4
 v4 := Tryz.zeroValue4
 t5 := Tryz.underlying5
 a5 := Tryz.isAgg5
 z5 := Tryz.sizeOf5
 v5 := Tryz.zeroValue5
 t9 := Tryz.underlying9
 a9 := Tryz.isAgg9
 z9 := Tryz.sizeOf9
 v9 := Tryz.zeroValue9
 t22 := Tryz.underlying154
 a22 := Tryz.isAgg154
 z22 := Tryz.sizeOf154
 v22 := Tryz.zeroValue154
 t25 := Tryz.underlying414
 a25 := Tryz.isAgg414
 z25 := Tryz.sizeOf414
 v25 := Tryz.zeroValue414
 t39 := Tryz.underlying359
 a39 := Tryz.isAgg359
 z39 := Tryz.sizeOf359
 v39 := Tryz.zeroValue359
 t45 := Tryz.underlying392
 a45 := Tryz.isAgg392
 z45 := Tryz.sizeOf392
 v45 := Tryz.zeroValue392
 t46 := Tryz.underlying393
 a46 := Tryz.isAgg393
 z46 := Tryz.sizeOf393
 v46 := Tryz.zeroValue393
 t50 := Tryz.underlying397
 a50 := Tryz.isAgg397
 z50 := Tryz.sizeOf397
 v50 := Tryz.zeroValue397
 t53 := Tryz.underlying360
 a53 := Tryz.isAgg360
 z53 := Tryz.sizeOf360
 v53 := Tryz.zeroValue360
 t55 := Tryz.underlying401
 a55 := Tryz.isAgg401
 z55 := Tryz.sizeOf401
 v55 := Tryz.zeroValue401
 t66 := Tryz.underlying415
 a66 := Tryz.isAgg415
 z66 := Tryz.sizeOf415
 v66 := Tryz.zeroValue415
 t70 := Tryz.underlying419
 a70 := Tryz.isAgg419
 z70 := Tryz.sizeOf419
 v70 := Tryz.zeroValue419
 t76 := Tryz.underlying434
 a76 := Tryz.isAgg434
 z76 := Tryz.sizeOf434
 v76 := Tryz.zeroValue434
 t77 := Tryz.underlying435
 a77 := Tryz.isAgg435
 z77 := Tryz.sizeOf435
 v77 := Tryz.zeroValue435 }
def Tryz.cmpInt_ren : Go.Shelf.Ren := ⟨fun | 5 => 202 | 7 => 291 | n => n, fun | 22 => 3 | 3 => 3 | 4 => 4 | n => n, fun | n => n⟩
theorem Tryz.cmpInt : Go.Proofs.SlLaysC2.n5 Tryz.prog Tryz.cmpInt_ren := {
 mixed := by kernel_rfl
 f5 := ⟨Tryz.f202.name, by decide, Tryz.func202.trans (congrArg some (by kernel_rfl))⟩
 f7 := ⟨Tryz.f291.name, by decide, Tryz.func291.trans (congrArg some (by kernel_rfl))⟩
 t3 := Tryz.underlying3
 a3 := Tryz.isAgg3
 z3 := Tryz.sizeOf3
 v3 := Tryz.zeroValue3
 t4 := Tryz.underlying4
 a4 := Tryz.isAgg4
 z4 := Tryz.sizeOf4
 v4 := Tryz.zeroValue4
 t22 := Tryz.underlying3
 a22 := Tryz.isAgg3
 z22 := Tryz.sizeOf3
 v22 := Tryz.zeroValue3 }
def Tryz.growRg_ren : Go.Shelf.Ren := ⟨fun | 4 => 416 | n => n, fun | 22 => 154 | 25 => 114 | 3 => 3 | 4 => 4 | 9 => 9 | 20 => 20 | 0 => 0 | 2 => 3 | n => n, fun | n => n⟩
theorem Tryz.growRg : Go.Proofs.Lays8.n4 Tryz.prog Tryz.growRg_ren := {
 mixed := by kernel_rfl
 f4 := ⟨Tryz.f416.name, by decide, Tryz.func416.trans (congrArg some (by kernel_rfl))⟩
 t0 := Tryz.underlying0
 a0 := Tryz.isAgg0
 z0 := Tryz.sizeOf0
 v0 := Tryz.zeroValue0
 t3 := Tryz.underlying3
 a3 := Tryz.isAgg3
 z3 := Tryz.sizeOf3
 v3 := Tryz.zeroValue3
 t4 := Tryz.underlying4
 a4 := Tryz.isAgg4
 z4 := Tryz.sizeOf4
 v4 := Tryz.zeroValue4
 t9 := Tryz.underlying9
 a9 := Tryz.isAgg9
 z9 := Tryz.sizeOf9
 v9 := Tryz.zeroValue9
 t20 := Tryz.underlying20
 a20 := Tryz.isAgg20
 z20 := Tryz.sizeOf20
 v20 := Tryz.zeroValue20
 t22 := Tryz.underlying154
 a22 := Tryz.isAgg154
 z22 := Tryz.sizeOf154
 v22 := Tryz.zeroValue154 }
def Tryz.sortCl_ren : Go.Shelf.Ren := ⟨fun | 6 => 385 | 15 => 379 | 14 => 414 | 28 => 411 | 29 => 412 | 20 => 445 | 21 => 446 | 22 => 447 | 23 => 448 | 24 => 449 | 25 => 450 | 26 => 451 | 27 => 452 | 46 => 464 | 47 => 433 | 48 => 434 | 49 => 465 | 50 => 466 | 57 => 481 | n => n, fun | 22 => 24 | 24 => 116 | 25 => 378 | 3 => 3 | 39 => 359 | 0 => 0 | 53 => 360 | 55 => 401 | 4 => 4 | 46 => 393 | 45 => 392 | 50 => 397 | 5 => 5 | 9 => 9 | 66 => 415 | 70 => 419 | 76 => 434 | 77 => 435 | n => n, fun | n => n⟩
theorem Tryz.sortCl : Go.Proofs.SlLaysF0.n6 Tryz.prog Tryz.sortCl_ren := {
 mixed := by kernel_rfl
 f6 := ⟨Tryz.f385.name, by decide, Tryz.func385.trans (congrArg some (by kernel_rfl))⟩
 f14 := ⟨Tryz.f414.name, by decide, Tryz.func414.trans (congrArg some (by kernel_rfl))⟩
 f15 := Tryz.func379.trans (congrArg some (by kernel_rfl))
 f20 := ⟨Tryz.f445.name, by decide, Tryz.func445.trans (congrArg some (by kernel_rfl))⟩
 f21 := ⟨Tryz.f446.name, by decide, Tryz.func446.trans (congrArg some (by kernel_rfl))⟩
 f22 := ⟨Tryz.f447.name, by decide, Tryz.func447.trans (congrArg some (by kernel_rfl))⟩
 f23 := ⟨Tryz.f448.name, by decide, Tryz.func448.trans (congrArg some (by kernel_rfl))⟩
 f24 := ⟨Tryz.f449.name, by decide, Tryz.func449.trans (congrArg some (by kernel_rfl))⟩
 f25 := ⟨Tryz.f450.name, by decide, Tryz.func450.trans (congrArg some (by kernel_rfl))⟩
 f26 := ⟨Tryz.f451.name, by decide, Tryz.func451.trans (congrArg some (by kernel_rfl))⟩
 f27 := ⟨Tryz.f452.name, by decide, Tryz.func452.trans (congrArg some (by kernel_rfl))⟩
 f28 := Tryz.func411.trans (congrArg some (by kernel_rfl))
 f29 := Tryz.func412.trans (congrArg some (by kernel_rfl))
 f46 := ⟨Tryz.f464.name, by decide, Tryz.func464.trans (congrArg some (by kernel_rfl))⟩
 f47 := Tryz.func433.trans (congrArg some (by kernel_rfl))
 f48 := Tryz.func434.trans (congrArg some (by kernel_rfl))
 f49 := ⟨Tryz.f465.name, by decide, Tryz.func465.trans (congrArg some (by kernel_rfl))⟩
 f50 := ⟨Tryz.f466.name, by decide, Tryz.func466.trans (congrArg some (by kernel_rfl))⟩
 f57 := ⟨Tryz.f481.name, by decide, Tryz.func481.trans (congrArg some (by kernel_rfl))⟩
 t0 := Tryz.underlying0
 a0 := Tryz.isAgg0
 z0 := Tryz.sizeOf0
 v0 := Tryz.zeroValue0
 t3 := Tryz.underlying3
 a3 := Tryz.isAgg3
 z3 := Tryz.sizeOf3
 v3 := Tryz.zeroValue3
 t4 := Tryz.underlying4
 a4 := Tryz.isAgg4
 z4 := Tryz.sizeOf4
 v4 := Tryz.zeroValue4
 t5 := Tryz.underlying5
 a5 := Tryz.isAgg5
 z5 := Tryz.sizeOf5
 v5 := Tryz.zeroValue5
 t9 := Tryz.underlying9
 a9 := Tryz.isAgg9
 z9 := Tryz.sizeOf9
 v9 := Tryz.zeroValue9
 t22 := Tryz.underlying24
 a22 := Tryz.isAgg24
 z22 := Tryz.sizeOf24
 v22 := Tryz.zeroValue24
 t25 := Tryz.underlying378
 a25 := Tryz.isAgg378
 z25 := Tryz.sizeOf378
 v25 := Tryz.zeroValue378
 t39 := Tryz.underlying359
 a39 := Tryz.isAgg359
 z39 := Tryz.sizeOf359
 v39 := Tryz.zeroValue359
 t45 := Tryz.underlying392
 a45 := Tryz.isAgg392
 z45 := Tryz.sizeOf392
 v45 := Tryz.zeroValue392
 t46 := Tryz.underlying393
 a46 := Tryz.isAgg393
 z46 := Tryz.sizeOf393
 v46 := Tryz.zeroValue393
 t50 := Tryz.underlying397
 a50 := Tryz.isAgg397
 z50 := Tryz.sizeOf397
 v50 := Tryz.zeroValue397
 t53 := Tryz.underlying360
 a53 := Tryz.isAgg360
 z53 := Tryz.sizeOf360
 v53 := Tryz.zeroValue360
 t55 := Tryz.underlying401
 a55 := Tryz.isAgg401
 z55 := Tryz.sizeOf401
 v55 := Tryz.zeroValue401
 t66 := Tryz.underlying415
 a66 := Tryz.isAgg415
 z66 := Tryz.sizeOf415
 v66 := Tryz.zeroValue415
 t70 := Tryz.underlying419
 a70 := Tryz.isAgg419
 z70 := Tryz.sizeOf419
 v70 := Tryz.zeroValue419
 t76 := Tryz.underlying434
 a76 := Tryz.isAgg434
 z76 := Tryz.sizeOf434
 v76 := Tryz.zeroValue434
 t77 := Tryz.underlying435
 a77 := Tryz.isAgg435
 z77 := Tryz.sizeOf435
 v77 := Tryz.zeroValue435 }
def Tryz.eqCl_ren : Go.Shelf.Ren := ⟨fun | 8 => 76 | n => n, fun | 22 => 24 | 24 => 116 | 4 => 4 | 3 => 3 | 0 => 0 | n => n, fun | n => n⟩
theorem Tryz.eqCl : Go.Proofs.SlLaysQ.n8 Tryz.prog Tryz.eqCl_ren := {
 mixed := by kernel_rfl
 f8 := ⟨Tryz.f76.name, by decide, Tryz.func76.trans (congrArg some (by kernel_rfl))⟩
 t0 := Tryz.underlying0
 a0 := Tryz.isAgg0
 z0 := Tryz.sizeOf0
 v0 := Tryz.zeroValue0
 t3 := Tryz.underlying3
 a3 := Tryz.isAgg3
 z3 := Tryz.sizeOf3
 v3 := Tryz.zeroValue3
 t4 := Tryz.underlying4
 a4 := Tryz.isAgg4
 z4 := Tryz.sizeOf4
 v4 := Tryz.zeroValue4
 t22 := Tryz.underlying24
 a22 := Tryz.isAgg24
 z22 := Tryz.sizeOf24
 v22 := Tryz.zeroValue24 }
def Tryz.sortVr_ren : Go.Shelf.Ren := ⟨fun | 6 => 382 | 15 => 379 | 14 => 413 | 28 => 411 | 29 => 412 | 20 => 437 | 21 => 438 | 22 => 439 | 23 => 440 | 24 => 441 | 25 => 442 | 26 => 443 | 27 => 444 | 46 => 461 | 47 => 433 | 48 => 434 | 49 => 462 | 50 => 463 | 57 => 480 | n => n, fun | 22 => 33 | 24 => 51 | 25 => 242 | 3 => 3 | 39 => 359 | 0 => 0 | 53 => 360 | 55 => 401 | 4 => 4 | 46 => 393 | 45 => 392 | 50 => 397 | 5 => 5 | 9 => 9 | 66 => 415 | 70 => 419 | 76 => 434 | 77 => 435 | n => n, fun | n => n⟩
theorem Tryz.sortVr : Go.Proofs.SlLaysF0.n6 Tryz.prog Tryz.sortVr_ren := {
 mixed := by kernel_rfl
 f6 := ⟨Tryz.f382.name, by decide, Tryz.func382.trans (congrArg some (by kernel_rfl))⟩
 f14 := ⟨Tryz.f413.name, by decide, Tryz.func413.trans (congrArg some (by kernel_rfl))⟩
 f15 := Tryz.func379.trans (congrArg some (by kernel_rfl))
 f20 := ⟨Tryz.f437.name, by decide, Tryz.func437.trans (congrArg some (by kernel_rfl))⟩
 f21 := ⟨Tryz.f438.name, by decide, Tryz.func438.trans (congrArg some (by kernel_rfl))⟩
 f22 := ⟨Tryz.f439.name, by decide, Tryz.func439.trans (congrArg some (by kernel_rfl))⟩
 f23 := ⟨Tryz.f440.name, by decide, Tryz.func440.trans (congrArg some (by kernel_rfl))⟩
 f24 := ⟨Tryz.f441.name, by decide, Tryz.func441.trans (congrArg some (by kernel_rfl))⟩
 f25 := ⟨Tryz.f442.name, by decide, Tryz.func442.trans (congrArg some (by kernel_rfl))⟩
 f26 := ⟨Tryz.f443.name, by decide, Tryz.func443.trans (congrArg some (by kernel_rfl))⟩
 f27 := ⟨Tryz.f444.name, by decide, Tryz.func444.trans (congrArg some (by kernel_rfl))⟩
 f28 := Tryz.func411.trans (congrArg some (by kernel_rfl))
 f29 := Tryz.func412.trans (congrArg some (by kernel_rfl))
 f46 := ⟨Tryz.f461.name, by decide, Tryz.func461.trans (congrArg some (by kernel_rfl))⟩
 f47 := Tryz.func433.trans (congrArg some (by kernel_rfl))
 f48 := Tryz.func434.trans (congrArg some (by kernel_rfl))
 f49 := ⟨Tryz.f462.name, by decide, Tryz.func462.trans (congrArg some (by kernel_rfl))⟩
 f50 := ⟨Tryz.f463.name, by decide, Tryz.func463.trans (congrArg some (by kernel_rfl))⟩
 f57 := ⟨Tryz.f480.name, by decide, Tryz.func480.trans (congrArg some (by kernel_rfl))⟩
 t0 := Tryz.underlying0
 a0 := Tryz.isAgg0
 z0 := Tryz.sizeOf0
 v0 := Tryz.zeroValue0
 t3 := Tryz.underlying3
 a3 := Tryz.isAgg3
 z3 := Tryz.sizeOf3
 v3 := Tryz.zeroValue3
 t4 := Tryz.underlying4
 a4 := Tryz.isAgg4
 z4 := Tryz.sizeOf4
 v4 := Tryz.zeroValue4
 t5 := Tryz.underlying5
 a5 := Tryz.isAgg5
 z5 := Tryz.sizeOf5
 v5 := Tryz.zeroValue5
 t9 := Tryz.underlying9
 a9 := Tryz.isAgg9
 z9 := Tryz.sizeOf9
 v9 := Tryz.zeroValue9
 t22 := Tryz.underlying33
 a22 := Tryz.isAgg33
 z22 := Tryz.sizeOf33
 v22 := Tryz.zeroValue33
 t25 := Tryz.underlying242
 a25 := Tryz.isAgg242
 z25 := Tryz.sizeOf242
 v25 := Tryz.zeroValue242
 t39 := Tryz.underlying359
 a39 := Tryz.isAgg359
 z39 := Tryz.sizeOf359
 v39 := Tryz.zeroValue359
 t45 := Tryz.underlying392
 a45 := Tryz.isAgg392
 z45 := Tryz.sizeOf392
 v45 := Tryz.zeroValue392
 t46 := Tryz.underlying393
 a46 := Tryz.isAgg393
 z46 := Tryz.sizeOf393
 v46 := Tryz.zeroValue393
 t50 := Tryz.underlying397
 a50 := Tryz.isAgg397
 z50 := Tryz.sizeOf397
 v50 := Tryz.zeroValue397
 t53 := Tryz.underlying360
 a53 := Tryz.isAgg360
 z53 := Tryz.sizeOf360
 v53 := Tryz.zeroValue360
 t55 := Tryz.underlying401
 a55 := Tryz.isAgg401
 z55 := Tryz.sizeOf401
 v55 := Tryz.zeroValue401
 t66 := Tryz.underlying415
 a66 := Tryz.isAgg415
 z66 := Tryz.sizeOf415
 v66 := Tryz.zeroValue415
 t70 := Tryz.underlying419
 a70 := Tryz.isAgg419
 z70 := Tryz.sizeOf419
 v70 := Tryz.zeroValue419
 t76 := Tryz.underlying434
 a76 := Tryz.isAgg434
 z76 := Tryz.sizeOf434
 v76 := Tryz.zeroValue434
 t77 := Tryz.underlying435
 a77 := Tryz.isAgg435
 z77 := Tryz.sizeOf435
 v77 := Tryz.zeroValue435 }
def Tryz.hasVr_ren : Go.Shelf.Ren := ⟨fun | 8 => 367 | 6 => 398 | n => n, fun | 22 => 33 | 23 => 51 | 25 => 125 | 4 => 4 | 3 => 3 | 0 => 0 | n => n, fun | n => n⟩
theorem Tryz.hasVr : Go.Proofs.SlLaysH0.n8 Tryz.prog Tryz.hasVr_ren := {
 mixed := by kernel_rfl
 f6 := ⟨Tryz.f398.name, by decide, Tryz.func398.trans (congrArg some (by kernel_rfl))⟩
 f8 := ⟨Tryz.f367.name, by decide, Tryz.func367.trans (congrArg some (by kernel_rfl))⟩
 t0 := Tryz.underlying0
 a0 := Tryz.isAgg0
 z0 := Tryz.sizeOf0
 v0 := Tryz.zeroValue0
 t3 := Tryz.underlying3
 a3 := Tryz.isAgg3
 z3 := Tryz.sizeOf3
 v3 := Tryz.zeroValue3
 t4 := Tryz.underlying4
 a4 := Tryz.isAgg4
 z4 := Tryz.sizeOf4
 v4 := Tryz.zeroValue4
 t22 := Tryz.underlying33
 a22 := Tryz.isAgg33
 z22 := Tryz.sizeOf33
 v22 := Tryz.zeroValue33
 t25 := Tryz.underlying125
 a25 := Tryz.isAgg125
 z25 := Tryz.sizeOf125
 v25 := Tryz.zeroValue125 }
def Tryz.growVr_ren : Go.Shelf.Ren := ⟨fun | 4 => 395 | n => n, fun | 22 => 33 | 25 => 51 | 3 => 3 | 4 => 4 | 9 => 9 | 20 => 20 | 0 => 0 | 2 => 3 | n => n, fun | n => n⟩
theorem Tryz.growVr : Go.Proofs.Lays8.n4 Tryz.prog Tryz.growVr_ren := {
 mixed := by kernel_rfl
 f4 := ⟨Tryz.f395.name, by decide, Tryz.func395.trans (congrArg some (by kernel_rfl))⟩
 t0 := Tryz.underlying0
 a0 := Tryz.isAgg0
 z0 := Tryz.sizeOf0
 v0 := Tryz.zeroValue0
 t3 := Tryz.underlying3
 a3 := Tryz.isAgg3
 z3 := Tryz.sizeOf3
 v3 := Tryz.zeroValue3
 t4 := Tryz.underlying4
 a4 := Tryz.isAgg4
 z4 := Tryz.sizeOf4
 v4 := Tryz.zeroValue4
 t9 := Tryz.underlying9
 a9 := Tryz.isAgg9
 z9 := Tryz.sizeOf9
 v9 := Tryz.zeroValue9
 t20 := Tryz.underlying20
 a20 := Tryz.isAgg20
 z20 := Tryz.sizeOf20
 v20 := Tryz.zeroValue20
 t22 := Tryz.underlying33
 a22 := Tryz.isAgg33
 z22 := Tryz.sizeOf33
 v22 := Tryz.zeroValue33 }
end Go.Proofs
namespace Go.Proofs.YtpafpegcodempaaGreat
open Go.RowKit Go.Shelf Go.Lib
open Go.RowKit Go.Sort
section
variable {α : Type} [Inhabited α] {enc : α → List Value} {k : Nat}
theorem flat_list (hk : ∀ x, (enc x).length = k) (h0 : 0 < k) (d : Array α) : (flatK enc k d).toList = d.toList.flatMap enc := by
 apply List.ext_getElem?
 intro j
 by_cases hj : j < d.size * k
 ·have hq : j / k < d.size := Nat.div_lt_of_lt_mul (by rwa [Nat.mul_comm])
  have hr : j % k < k := Nat.mod_lt _ h0
  have e := get_flatK enc k d j hj
  have hs : j < (flatK enc k d).size := by rw [size_flatK]; exact hj
  rw [Array.getElem?_toList, Array.getElem?_eq_getElem hs, ← getElem!_pos (flatK enc k d) j hs, e]
  have hx : d.toList[j / k]? = some d[j / k]! := by rw [Array.getElem?_toList, Array.getElem?_eq_getElem hq, getElem!_pos d _ hq]
  have hl : j % k < (enc d[j / k]!).length := by rw [hk]; exact hr
  have hu : (enc d[j / k]!)[j % k]? = some (enc d[j / k]!)[j % k]! := by rw [List.getElem?_eq_getElem hl, getElem!_pos (enc d[j / k]!) _ hl]
  have h1 := rows_at d.toList (fun x _ => hk x) (j / k) _ hx (j % k) _ hu
  rw [← h1]
  congr 1
  exact Nat.div_add_mod' j k
 ·have h2 := rows_len d.toList (fun x _ => hk x)
  rw [List.getElem?_eq_none (by simp; omega), List.getElem?_eq_none (by rw [h2]; simp; omega)]
theorem own_holds (hk : ∀ x, (enc x).length = k) (h0 : 0 < k) {w : World} {base t n g cap : Nat} {l : List α} (h : w.ownsRow base t k (.slice (some ⟨g, 0, none⟩) n cap) n (l.flatMap enc)) : HoldsK enc k w g 0 l.toArray := by
 intro j hj
 rw [size_flatK] at hj
 have hl : l.length * k = n * k := by rw [← rows_len l (fun x _ => hk x)]; exact h.1
 have hj2 : j < n * k := by rw [← hl]; simpa using hj
 refine ⟨?_, ?_⟩
 ·rw [Nat.zero_add, h.cellAt j hj2]
  have hs : j < (flatK enc k l.toArray).size := by rw [size_flatK]; exact hj
  have e : (flatK enc k l.toArray).toList[j]? = some (flatK enc k l.toArray)[j]! := by rw [Array.getElem?_toList, Array.getElem?_eq_getElem hs, getElem!_pos (flatK enc k l.toArray) j hs]
  rw [flat_list hk h0] at e
  exact e
 ·rw [Nat.zero_add]
  exact h.frozenAt j
theorem heap_sortK {w : World} {g n : Nat} {os : Array Obj} {cur : Array Value} {e : TypeId} {fr : Nat × Nat} (d : Array α) (hb : w.heap[g]? = some (.cells cur e fr)) :
  (Go.Proofs.sortWorldK enc k w g 0 n d os).heap[g]? = some (.cells (putCells id 0 (flatK enc k d) cur) e fr) := by
 have hg : g < w.heap.size := (Array.getElem?_eq_some_iff.1 hb).1
 unfold Go.Proofs.sortWorldK putRowK
 rw [heap_grow_old _ _ (by simpa using hg)]
 simp [putRow, mapBlock, Sort.ahead, Array.getElem?_modify, hb, onCells]
theorem grown_sortK {w : World} {g n : Nat} {os : Array Obj} (d : Array α) : w.grownBy (Go.Proofs.sortWorldK enc k w g 0 n d os) (some g) := by
 unfold Go.Proofs.sortWorldK putRowK
 refine ⟨rfl, rfl, rfl, by simp, fun j hj hne => ?_⟩
 rw [heap_grow_old _ _ (by simpa using hj)]
 have : g ≠ j := fun e => hne (by rw [e])
 simp [putRow, mapBlock, Sort.ahead, Array.getElem?_modify, this]
theorem take_put (cur F : Array Value) (h : F.size ≤ cur.size) : (putCells id 0 F cur).toList.take F.size = F.toList := by
 apply List.ext_getElem?
 intro j
 by_cases hj : j < F.size
 ·rw [List.getElem?_take_of_lt hj, Array.getElem?_toList]
  simp [putCells, hj, show j < cur.size by omega]
 ·rw [List.getElem?_take_eq_none (by omega), List.getElem?_eq_none (by simpa using hj)]
theorem own_sorted (hk : ∀ x, (enc x).length = k) (h0 : 0 < k) {w : World} {base t n m g cap : Nat} {l : List α} {d : Array α} {os : Array Obj} (h : w.ownsRow base t k (.slice (some ⟨g, 0, none⟩) n cap) n (l.flatMap enc)) (hd : d.size = n) :
  (Go.Proofs.sortWorldK enc k w g 0 m d os).ownsRow base t k (.slice (some ⟨g, 0, none⟩) n cap) n (d.toList.flatMap enc) := by
 refine ⟨by rw [rows_len d.toList (fun x _ => hk x)]; simp [hd], ?_⟩
 rcases h.2 with ⟨e, -⟩ | ⟨g2, cap2, cur, e, hb, hg, hc, hm, hs, ht⟩
 ·cases e
 ·injection e with e1 e2 e3
  injection e1 with e1
  injection e1 with e1
  subst e1 e3
  refine .inr ⟨g, cap, _, rfl, hb, heap_sortK d hg, hc, hm, by simp [putCells, hs], ?_⟩
  have hf : (flatK enc k d).size = n * k := by rw [size_flatK, hd]
  rw [← hf, take_put cur _ (by rw [hf, hs]; exact Nat.mul_le_mul_right _ hc), flat_list hk h0]
theorem RowsOwn.sorted (hk : ∀ x, (enc x).length = k) (h0 : 0 < k) {w wr : World} {t m g cap : Nat} {l : List α} {d : Array α} {os : Array Obj} (h : RowsOwn t k enc w l (.slice (some ⟨g, 0, none⟩) l.length cap) wr) (hd : d.size = l.length) :
  RowsOwn t k enc w d.toList (.slice (some ⟨g, 0, none⟩) l.length cap) (Go.Proofs.sortWorldK enc k wr g 0 m d os) := by
 have hg := h.1.lt g rfl
 refine ⟨?_, h.2.grown (grown_sortK d) h.2.size (fun j hj => by injection hj with hj; omega)⟩
 have h1 := own_sorted (m := m) (os := os) hk h0 h.1 hd
 have e : d.toList.length = l.length := by simpa using hd
 rw [e]
 exact h1
theorem perm_list {l : List α} {d : Array α} (h : PermIn 0 l.toArray.size l.toArray d) : d.toList.Perm l ∧ d.size = l.length := by
 obtain ⟨h1, -, h3⟩ := h
 have hs : d.size = l.length := by simpa using h1
 refine ⟨?_, hs⟩
 have e1 : d.extract 0 l.toArray.size = d := by rw [← h1]; exact Array.extract_size
 have e2 : l.toArray.extract 0 l.toArray.size = l.toArray := Array.extract_size
 rw [e1, e2] at h3
 exact h3
end
open Go.RowKit Go.Shelf Go.Lib Go.Sort
instance Know.decV : ∀ a b : List Int, Decidable (Know.vlt a b)
 | [], _ => isFalse (fun h => h)
 | _ :: _, [] => isFalse (fun h => h)
 | a :: l, b :: m => by
  have := Know.decV l m
  exact inferInstanceAs (Decidable (b < a ∨ (a = b ∧ Know.vlt l m)))
instance Know.decN : ∀ a b : List Ver.V, Decidable (Know.nlt a b)
 | [], [] => isFalse (fun h => h)
 | _ :: _, [] => isFalse (fun h => h)
 | [], _ :: _ => isTrue trivial
 | a :: l, b :: m => by
  have := Know.decN l m
  exact inferInstanceAs (Decidable (Ver.Before a b ∨ (a = b ∧ Know.nlt l m)))
instance Know.decF (x y : Know.Fr) : Decidable (Know.FLt x y) := inferInstanceAs (Decidable (_ ∨ (_ ∧ _)))
end Go.Proofs.YtpafpegcodempaaGreat
namespace Go.Proofs.YtpafpegcodempaaGreat.Pth
def lens : List Tx → Nat
 | [] => 0
 | t :: l => t.length + 1 + lens l
theorem lens_append (a b : List Tx) : lens (a ++ b) = lens a + lens b := by
 induction a with
 | nil => simp [lens]
 | cons t a ih => simp only [List.cons_append, lens, ih]; omega
theorem lens_splitA (s : Tx) : ∀ cur, lens (splitA cur s) = cur.length + s.length + 1 := by
 induction s with
 | nil => intro cur; simp [splitA, lens]
 | cons c s ih =>
  intro cur
  unfold splitA
  split
  ·simp only [lens, ih, List.length_nil, List.length_cons]; omega
  ·rw [ih]; simp only [List.length_append, List.length_cons, List.length_nil]; omega
theorem splitA_step (cur : Tx) (c : UInt8) (s : Tx) : splitA cur (c :: s) = if c.toNat = 47 then cur :: splitA [] s else splitA (cur ++ [c]) s := by rw [splitA]
theorem splitA_no {s : Tx} (h : ∀ c ∈ s, c.toNat ≠ 47) : ∀ cur, splitA cur s = [cur ++ s] := by
 induction s with
 | nil => intro cur; simp [splitA]
 | cons c s ih =>
  intro cur
  unfold splitA
  rw [if_neg (h c (List.mem_cons_self ..)), ih (fun x hx => h x (List.mem_cons_of_mem _ hx))]
  simp
theorem splitA_at {a : Tx} (h : ∀ c ∈ a, c.toNat ≠ 47) (b : Tx) : ∀ cur, splitA cur (a ++ 47 :: b) = (cur ++ a) :: splitA [] b := by
 induction a with
 | nil =>
  intro cur
  show splitA cur (47 :: b) = _
  rw [splitA_step, if_pos (by decide)]; simp
 | cons c a ih =>
  intro cur
  show splitA cur (c :: (a ++ 47 :: b)) = _
  rw [splitA_step, if_neg (h c (List.mem_cons_self ..)), ih (fun x hx => h x (List.mem_cons_of_mem _ hx))]
  simp
def Fit (d : List Tx) : Prop := (∀ t ∈ d, Name t) ∧ d.length ≤ 6 ∧ lens d ≤ 41
theorem fit_nil : Fit [] := ⟨by simp, by simp, by simp [lens]⟩
def Next (d : List Tx) (t : Tx) : Prop := Name t ∧ (0 : Int) ≤ (6 - (d.length : Int)) - 1 ∧ (0 : Int) ≤ (41 - (lens d : Int)) - ((t.length : Int) + 1)
instance (d : List Tx) (t : Tx) : Decidable (Next d t) := inferInstanceAs (Decidable (_ ∧ _))
theorem fit_next {d : List Tx} {t : Tx} (h : Fit d) (k : Next d t) : Fit (d ++ [t]) := by
 obtain ⟨h1, h2, h3⟩ := h
 obtain ⟨k1, k2, k3⟩ := k
 refine ⟨?_, ?_, ?_⟩
 ·intro x hx
  rcases List.mem_append.1 hx with hx | hx
  ·exact h1 x hx
  ·rw [List.mem_singleton.1 hx]; exact k1
 ·rw [List.length_append, List.length_singleton]; omega
 ·rw [lens_append]; simp only [lens]; omega
theorem fit_not {d e : List Tx} {t : Tx} (k : ¬ Next d t) : ¬ Fit (d ++ t :: e) := by
 rintro ⟨h1, h2, h3⟩
 apply k
 rw [List.length_append, List.length_cons] at h2
 rw [lens_append] at h3
 simp only [lens] at h3
 exact ⟨h1 t (by simp), by omega, by omega⟩
theorem right_fit (s : Tx) : Right s ↔ Fit (split s) := by
 have h := lens_splitA s []
 rw [List.length_nil, Nat.zero_add] at h
 constructor
 ·rintro ⟨h1, h2, h3⟩
  exact ⟨h1, h3, by unfold split; omega⟩
 ·rintro ⟨h1, h2, h3⟩
  exact ⟨h1, by unfold split at h3; omega, h2⟩
theorem index_cases : ∀ s : Tx, (Lib.indexByte s 47 = -1 ∧ ∀ c ∈ s, c.toNat ≠ 47) ∨ ∃ a b, s = a ++ 47 :: b ∧ (∀ c ∈ a, c.toNat ≠ 47) ∧ Lib.indexByte s 47 = (a.length : Int)
 | [] => Or.inl ⟨rfl, by simp⟩
 | c :: s => by
  by_cases hc : c = 47
  ·subst hc
   exact Or.inr ⟨[], s, rfl, by simp, rfl⟩
  ·have hc2 : c.toNat ≠ 47 := fun e => hc (UInt8.toNat_inj.1 e)
   have hb : (c == 47) = false := by rw [beq_eq_false_iff_ne]; exact hc
   rcases index_cases s with ⟨h1, h2⟩ | ⟨a, b, rfl, h2, h3⟩
   ·refine Or.inl ⟨?_, ?_⟩
    ·show (if c == 47 then 0 else if Lib.indexByte s 47 == -1 then -1 else Lib.indexByte s 47 + 1) = _
     rw [hb, h1]; rfl
    ·intro x hx
     rcases List.mem_cons.1 hx with rfl | hx
     ·exact hc2
     ·exact h2 x hx
   ·refine Or.inr ⟨c :: a, b, rfl, ?_, ?_⟩
    ·intro x hx
     rcases List.mem_cons.1 hx with rfl | hx
     ·exact hc2
     ·exact h2 x hx
    ·show (if c == 47 then 0 else if Lib.indexByte (a ++ 47 :: b) 47 == -1 then -1 else Lib.indexByte (a ++ 47 :: b) 47 + 1) = _
     rw [hb, h3]
     have : (((a.length : Nat) : Int) == -1) = false := by rw [beq_eq_false_iff_ne]; omega
     rw [this]
     simp
theorem parentTo_at {a : Tx} {i : Nat} (hi : a[i]? = some 47) : ∀ n, i < n → (∀ j, i < j → j < n → a[j]? ≠ some 47) → parentTo a n = a.take i
 | 0, h, _ => absurd h (by omega)
 | n + 1, h, hj => by
  unfold parentTo
  by_cases hn : i = n
  ·subst hn; rw [if_pos hi]
  ·rw [if_neg (hj n (by omega) (by omega))]
   exact parentTo_at hi n (by omega) (fun j h1 h2 => hj j h1 (by omega))
theorem parentTo_no {a : Tx} : ∀ n, (∀ j, j < n → a[j]? ≠ some 47) → parentTo a n = []
 | 0, _ => rfl
 | n + 1, hj => by
  unfold parentTo
  rw [if_neg (hj n (by omega))]
  exact parentTo_no n (fun j h => hj j (by omega))
theorem last_cases (s : ByteArray) : (Lib.lastIndexByte s 47 = -1 ∧ parent s.data.toList = []) ∨ ∃ i : Nat, i ≤ s.size ∧ Lib.lastIndexByte s 47 = (i : Int) ∧ parent s.data.toList = s.data.toList.take i := by
 have key : ∀ j, j < s.size → (s.data.toList[j]? = some 47 ↔ ((s.data[j]!).toNat : Int) = 47) := by
  intro j hj
  have hj' : j < s.data.size := hj
  rw [Array.getElem?_toList, Array.getElem?_eq_getElem hj', getElem!_pos s.data j hj']
  constructor
  ·intro h; injection h with h; rw [h]; rfl
  ·intro h
   congr 1
   apply UInt8.toNat_inj.1
   show _ = 47
   omega
 have hl : s.data.toList.length = s.size := (Lib.size_eq s).symm
 unfold parent
 rw [hl]
 rcases Lib.lastIdx_spec s 47 s.size with ⟨h1, h2⟩ | ⟨i, hi, h1, h2, h3⟩
 ·refine Or.inl ⟨h1, parentTo_no _ (fun j hj e => h2 j hj ((key j hj).1 e))⟩
 ·refine Or.inr ⟨i, by omega, h1, parentTo_at ((key i hi).2 h2) _ hi (fun j h4 h5 e => h3 j h4 h5 ((key j h5).1 e))⟩
end Go.Proofs.YtpafpegcodempaaGreat.Pth
