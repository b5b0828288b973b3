/-
  The library's slices.SortFunc lies in this program as the shelf's contract wants it (made by the shelf's own tool).
-/
import Derived.Shelf.SlSortCmp.WholeK
import Derived.Shelf.SlGeneric
import Derived.Test.YtodielfilhodeaaProg
namespace Go.Proofs.Ytodielfilhodeaa
open Go Go.Proofs Go.Shelf
def Try.sortM_ren : Go.Shelf.Ren := ⟨fun | 6 => 176 | 15 => 200 | 14 => 199 | 28 => 218 | 29 => 219 | 20 => 210 | 21 => 211 | 22 => 212 | 23 => 213 | 24 => 214 | 25 => 215 | 26 => 216 | 27 => 217 | 46 => 222 | 47 => 223 | 48 => 224 | 49 => 225 | 50 => 226 | 57 => 228 | n => n, fun | 22 => 30 | 24 => 37 | 25 => 174 | 3 => 3 | 39 => 218 | 0 => 0 | 53 => 247 | 55 => 249 | 4 => 4 | 46 => 240 | 45 => 239 | 50 => 244 | 5 => 5 | 9 => 9 | 66 => 251 | 70 => 255 | 76 => 258 | 77 => 259 | n => n, fun | n => n⟩
theorem Try.sortM : Go.Proofs.SlLaysF0.n6 Try.prog Try.sortM_ren := {
  mixed := by kernel_rfl
  f6 := ⟨Try.f176.name, by decide, Try.func176.trans (congrArg some (by kernel_rfl))⟩
  f14 := ⟨Try.f199.name, by decide, Try.func199.trans (congrArg some (by kernel_rfl))⟩
  f15 := Try.func200.trans (congrArg some (by kernel_rfl))
  f20 := ⟨Try.f210.name, by decide, Try.func210.trans (congrArg some (by kernel_rfl))⟩
  f21 := ⟨Try.f211.name, by decide, Try.func211.trans (congrArg some (by kernel_rfl))⟩
  f22 := ⟨Try.f212.name, by decide, Try.func212.trans (congrArg some (by kernel_rfl))⟩
  f23 := ⟨Try.f213.name, by decide, Try.func213.trans (congrArg some (by kernel_rfl))⟩
  f24 := ⟨Try.f214.name, by decide, Try.func214.trans (congrArg some (by kernel_rfl))⟩
  f25 := ⟨Try.f215.name, by decide, Try.func215.trans (congrArg some (by kernel_rfl))⟩
  f26 := ⟨Try.f216.name, by decide, Try.func216.trans (congrArg some (by kernel_rfl))⟩
  f27 := ⟨Try.f217.name, by decide, Try.func217.trans (congrArg some (by kernel_rfl))⟩
  f28 := Try.func218.trans (congrArg some (by kernel_rfl))
  f29 := Try.func219.trans (congrArg some (by kernel_rfl))
  f46 := ⟨Try.f222.name, by decide, Try.func222.trans (congrArg some (by kernel_rfl))⟩
  f47 := Try.func223.trans (congrArg some (by kernel_rfl))
  f48 := Try.func224.trans (congrArg some (by kernel_rfl))
  f49 := ⟨Try.f225.name, by decide, Try.func225.trans (congrArg some (by kernel_rfl))⟩
  f50 := ⟨Try.f226.name, by decide, Try.func226.trans (congrArg some (by kernel_rfl))⟩
  f57 := ⟨Try.f228.name, by decide, Try.func228.trans (congrArg some (by kernel_rfl))⟩
  t0 := Try.underlying0
  a0 := Try.isAgg0
  z0 := Try.sizeOf0
  v0 := Try.zeroValue0
  t3 := Try.underlying3
  a3 := Try.isAgg3
  z3 := Try.sizeOf3
  v3 := Try.zeroValue3
  t4 := Try.underlying4
  a4 := Try.isAgg4
  z4 := Try.sizeOf4
  v4 := Try.zeroValue4
  t5 := Try.underlying5
  a5 := Try.isAgg5
  z5 := Try.sizeOf5
  v5 := Try.zeroValue5
  t9 := Try.underlying9
  a9 := Try.isAgg9
  z9 := Try.sizeOf9
  v9 := Try.zeroValue9
  t22 := Try.underlying30
  a22 := Try.isAgg30
  z22 := Try.sizeOf30
  v22 := Try.zeroValue30
  t25 := Try.underlying174
  a25 := Try.isAgg174
  z25 := Try.sizeOf174
  v25 := Try.zeroValue174
  t39 := Try.underlying218
  a39 := Try.isAgg218
  z39 := Try.sizeOf218
  v39 := Try.zeroValue218
  t45 := Try.underlying239
  a45 := Try.isAgg239
  z45 := Try.sizeOf239
  v45 := Try.zeroValue239
  t46 := Try.underlying240
  a46 := Try.isAgg240
  z46 := Try.sizeOf240
  v46 := Try.zeroValue240
  t50 := Try.underlying244
  a50 := Try.isAgg244
  z50 := Try.sizeOf244
  v50 := Try.zeroValue244
  t53 := Try.underlying247
  a53 := Try.isAgg247
  z53 := Try.sizeOf247
  v53 := Try.zeroValue247
  t55 := Try.underlying249
  a55 := Try.isAgg249
  z55 := Try.sizeOf249
  v55 := Try.zeroValue249
  t66 := Try.underlying251
  a66 := Try.isAgg251
  z66 := Try.sizeOf251
  v66 := Try.zeroValue251
  t70 := Try.underlying255
  a70 := Try.isAgg255
  z70 := Try.sizeOf255
  v70 := Try.zeroValue255
  t76 := Try.underlying258
  a76 := Try.isAgg258
  z76 := Try.sizeOf258
  v76 := Try.zeroValue258
  t77 := Try.underlying259
  a77 := Try.isAgg259
  z77 := Try.sizeOf259
  v77 := Try.zeroValue259 }
end Go.Proofs.Ytodielfilhodeaa
