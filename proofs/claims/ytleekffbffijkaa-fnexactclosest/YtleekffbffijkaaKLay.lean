/-
  The library's slices.SortFunc lies in this program as the shelf's contract wants it (made by the shelf's own tool).
-/
import Derived.Shelf.SlSortCmp.WholeK
import Derived.Shelf.SlGeneric
import Derived.Test.YtleekffbffijkaaProg
namespace Go.Proofs.Ytleekffbffijkaa
open Go Go.Proofs Go.Shelf
def Try.sortM_ren : Go.Shelf.Ren := ⟨fun | 6 => 171 | 15 => 198 | 14 => 197 | 28 => 221 | 29 => 222 | 20 => 213 | 21 => 214 | 22 => 215 | 23 => 216 | 24 => 217 | 25 => 218 | 26 => 219 | 27 => 220 | 46 => 228 | 47 => 229 | 48 => 230 | 49 => 231 | 50 => 232 | 57 => 234 | n => n, fun | 22 => 33 | 24 => 30 | 25 => 170 | 3 => 3 | 39 => 224 | 0 => 0 | 53 => 256 | 55 => 258 | 4 => 4 | 46 => 249 | 45 => 248 | 50 => 253 | 5 => 5 | 9 => 9 | 66 => 262 | 70 => 266 | 76 => 269 | 77 => 270 | n => n, fun | n => n⟩
theorem Try.sortM : Go.Proofs.SlLaysF0.n6 Try.prog Try.sortM_ren := {
  mixed := by kernel_rfl
  f6 := ⟨Try.f171.name, by decide, Try.func171.trans (congrArg some (by kernel_rfl))⟩
  f14 := ⟨Try.f197.name, by decide, Try.func197.trans (congrArg some (by kernel_rfl))⟩
  f15 := Try.func198.trans (congrArg some (by kernel_rfl))
  f20 := ⟨Try.f213.name, by decide, Try.func213.trans (congrArg some (by kernel_rfl))⟩
  f21 := ⟨Try.f214.name, by decide, Try.func214.trans (congrArg some (by kernel_rfl))⟩
  f22 := ⟨Try.f215.name, by decide, Try.func215.trans (congrArg some (by kernel_rfl))⟩
  f23 := ⟨Try.f216.name, by decide, Try.func216.trans (congrArg some (by kernel_rfl))⟩
  f24 := ⟨Try.f217.name, by decide, Try.func217.trans (congrArg some (by kernel_rfl))⟩
  f25 := ⟨Try.f218.name, by decide, Try.func218.trans (congrArg some (by kernel_rfl))⟩
  f26 := ⟨Try.f219.name, by decide, Try.func219.trans (congrArg some (by kernel_rfl))⟩
  f27 := ⟨Try.f220.name, by decide, Try.func220.trans (congrArg some (by kernel_rfl))⟩
  f28 := Try.func221.trans (congrArg some (by kernel_rfl))
  f29 := Try.func222.trans (congrArg some (by kernel_rfl))
  f46 := ⟨Try.f228.name, by decide, Try.func228.trans (congrArg some (by kernel_rfl))⟩
  f47 := Try.func229.trans (congrArg some (by kernel_rfl))
  f48 := Try.func230.trans (congrArg some (by kernel_rfl))
  f49 := ⟨Try.f231.name, by decide, Try.func231.trans (congrArg some (by kernel_rfl))⟩
  f50 := ⟨Try.f232.name, by decide, Try.func232.trans (congrArg some (by kernel_rfl))⟩
  f57 := ⟨Try.f234.name, by decide, Try.func234.trans (congrArg some (by kernel_rfl))⟩
  t0 := Try.underlying0
  a0 := Try.isAgg0
  z0 := Try.sizeOf0
  v0 := Try.zeroValue0
  t3 := Try.underlying3
  a3 := Try.isAgg3
  z3 := Try.sizeOf3
  v3 := Try.zeroValue3
  t4 := Try.underlying4
  a4 := Try.isAgg4
  z4 := Try.sizeOf4
  v4 := Try.zeroValue4
  t5 := Try.underlying5
  a5 := Try.isAgg5
  z5 := Try.sizeOf5
  v5 := Try.zeroValue5
  t9 := Try.underlying9
  a9 := Try.isAgg9
  z9 := Try.sizeOf9
  v9 := Try.zeroValue9
  t22 := Try.underlying33
  a22 := Try.isAgg33
  z22 := Try.sizeOf33
  v22 := Try.zeroValue33
  t25 := Try.underlying170
  a25 := Try.isAgg170
  z25 := Try.sizeOf170
  v25 := Try.zeroValue170
  t39 := Try.underlying224
  a39 := Try.isAgg224
  z39 := Try.sizeOf224
  v39 := Try.zeroValue224
  t45 := Try.underlying248
  a45 := Try.isAgg248
  z45 := Try.sizeOf248
  v45 := Try.zeroValue248
  t46 := Try.underlying249
  a46 := Try.isAgg249
  z46 := Try.sizeOf249
  v46 := Try.zeroValue249
  t50 := Try.underlying253
  a50 := Try.isAgg253
  z50 := Try.sizeOf253
  v50 := Try.zeroValue253
  t53 := Try.underlying256
  a53 := Try.isAgg256
  z53 := Try.sizeOf256
  v53 := Try.zeroValue256
  t55 := Try.underlying258
  a55 := Try.isAgg258
  z55 := Try.sizeOf258
  v55 := Try.zeroValue258
  t66 := Try.underlying262
  a66 := Try.isAgg262
  z66 := Try.sizeOf262
  v66 := Try.zeroValue262
  t70 := Try.underlying266
  a70 := Try.isAgg266
  z70 := Try.sizeOf266
  v70 := Try.zeroValue266
  t76 := Try.underlying269
  a76 := Try.isAgg269
  z76 := Try.sizeOf269
  v76 := Try.zeroValue269
  t77 := Try.underlying270
  a77 := Try.isAgg270
  z77 := Try.sizeOf270
  v77 := Try.zeroValue270 }
end Go.Proofs.Ytleekffbffijkaa
