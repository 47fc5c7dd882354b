/-
  No statement of the seat is proved here. (Several texts in one: Lay, CdI, CdJ, AsA, AsP, AsB.)
-/
import Derived.Test.YtppejcfghlpbjaaGreatDoorChecked
import Derived.Shelf.Pu.ParseUintPublic10
import Derived.Shelf.Small.Strs
import Derived.Shelf.Small.Wraps
import Derived.Shelf.Strconv.Clone
import Derived.Shelf.Strconv.Itoa3
import Derived.Shelf.Strings.Cut
import Derived.Shelf.Strings.IndexAnyAll
import Derived.Shelf.Strings.LastIndex
import Derived.Shelf.Strings.OnBuilder
import Derived.Shelf.Strings.Prefix
import Derived.Shelf.Strings.SlTrimAscii
import Derived.Shelf.Strings.Split
import Derived.Test.YtppejcfghlpbjaaGreatDoorM02CdF
import Derived.Lib.SplitLaws
import Derived.Laws.ResultCell
import Derived.Laws.Rows
import Derived.Laws.Tables
import Derived.WalkKit
import Derived.Lib.ItoaLen
/- What of the library of Go the program of the seat holds, in the words of the contracts of the shelf. No statement of the seat is proved here. -/
namespace Go.Proofs.YtppejcfghlpbjaaGreatDoor
open Go.Shelf
def lays147_ren : Go.Shelf.Ren := ⟨fun | 147 => 91 | 221 => 113 | 268 => 133 | 138 => 134 | 143 => 135 | 195 => 141 | 197 => 136 | 218 => 142 | 219 => 89 | 260 => 143 | 217 => 64 | 225 => 108 | 224 => 109 | 267 => 110 | 266 => 87 | 314 => 126 | n => n, fun | 9 => 9 | 3 => 3 | 31 => 106 | 4 => 4 | 0 => 0 | 105 => 190 | 21 => 21 | 5 => 5 | 46 => 165 | 119 => 203 | 139 => 206 | 138 => 205 | 146 => 182 | 51 => 41 | n => n, fun | 1 => 1 | 3 => 7 | 4 => 8 | n => n⟩
theorem lays147 : Go.Proofs.Lays.n147 Tryz.prog lays147_ren := {
  mixed := by kernel_rfl,
  f138 := Tryz.func134.trans (congrArg some (by kernel_rfl)),
  f143 := Tryz.func135.trans (congrArg some (by kernel_rfl)),
  f147 := Tryz.func91.trans (congrArg some (by kernel_rfl)),
  f195 := Tryz.func141.trans (congrArg some (by kernel_rfl)),
  f197 := Tryz.func136.trans (congrArg some (by kernel_rfl)),
  f217 := Tryz.func64.trans (congrArg some (by kernel_rfl)),
  f218 := Tryz.func142.trans (congrArg some (by kernel_rfl)),
  f219 := Tryz.func89.trans (congrArg some (by kernel_rfl)),
  f221 := Tryz.func113.trans (congrArg some (by kernel_rfl)),
  f224 := Tryz.func109.trans (congrArg some (by kernel_rfl)),
  f225 := Tryz.func108.trans (congrArg some (by kernel_rfl)),
  f260 := Tryz.func143.trans (congrArg some (by kernel_rfl)),
  f266 := Tryz.func87.trans (congrArg some (by kernel_rfl)),
  f267 := Tryz.func110.trans (congrArg some (by kernel_rfl)),
  f268 := Tryz.func133.trans (congrArg some (by kernel_rfl)),
  f314 := Tryz.func126.trans (congrArg some (by kernel_rfl)),
  t0 := Tryz.underlying0,
  a0 := Tryz.isAgg0,
  z0 := Tryz.sizeOf0,
  v0 := Tryz.zeroValue0,
  t3 := Tryz.underlying3,
  a3 := Tryz.isAgg3,
  z3 := Tryz.sizeOf3,
  v3 := Tryz.zeroValue3,
  t4 := Tryz.underlying4,
  a4 := Tryz.isAgg4,
  z4 := Tryz.sizeOf4,
  v4 := Tryz.zeroValue4,
  t5 := Tryz.underlying5,
  a5 := Tryz.isAgg5,
  z5 := Tryz.sizeOf5,
  v5 := Tryz.zeroValue5,
  t9 := Tryz.underlying9,
  a9 := Tryz.isAgg9,
  z9 := Tryz.sizeOf9,
  v9 := Tryz.zeroValue9,
  t21 := Tryz.underlying21,
  a21 := Tryz.isAgg21,
  z21 := Tryz.sizeOf21,
  v21 := Tryz.zeroValue21,
  t31 := Tryz.underlying106,
  a31 := Tryz.isAgg106,
  z31 := Tryz.sizeOf106,
  v31 := Tryz.zeroValue106,
  t46 := Tryz.underlying165,
  a46 := Tryz.isAgg165,
  z46 := Tryz.sizeOf165,
  v46 := Tryz.zeroValue165,
  t51 := Tryz.underlying41,
  a51 := Tryz.isAgg41,
  z51 := Tryz.sizeOf41,
  v51 := Tryz.zeroValue41,
  t105 := Tryz.underlying190,
  a105 := Tryz.isAgg190,
  z105 := Tryz.sizeOf190,
  v105 := Tryz.zeroValue190,
  t119 := Tryz.underlying203,
  a119 := Tryz.isAgg203,
  z119 := Tryz.sizeOf203,
  t138 := Tryz.underlying205,
  a138 := Tryz.isAgg205,
  z138 := Tryz.sizeOf205,
  v138 := Tryz.zeroValue205,
  t139 := Tryz.underlying206,
  a139 := Tryz.isAgg206,
  z139 := Tryz.sizeOf206,
  v139 := Tryz.zeroValue206,
  t146 := Tryz.underlying182,
  a146 := Tryz.isAgg182,
  z146 := Tryz.sizeOf182,
  v146 := Tryz.zeroValue182,
  g1 := by kernel_rfl,
  g3 := by kernel_rfl,
  g4 := by kernel_rfl
}
def lays171_ren : Go.Shelf.Ren := ⟨fun | 171 => 57 | 243 => 79 | 246 => 102 | 283 => 82 | 284 => 83 | 285 => 84 | 286 => 85 | 129 => 104 | 317 => 103 | 318 => 105 | 319 => 106 | 320 => 107 | 337 => 124 | 338 => 125 | n => n, fun | 3 => 3 | 9 => 9 | 2 => 2 | 4 => 4 | 171 => 141 | 0 => 0 | 53 => 40 | 37 => 52 | 5 => 5 | 173 => 144 | 212 => 162 | 51 => 41 | 20 => 20 | 213 => 163 | 46 => 165 | 232 => 194 | 233 => 195 | n => n, fun | 17 => 2 | 18 => 3 | 19 => 4 | n => n⟩
theorem lays171 : Go.Proofs.LaysM.n171 Tryz.prog lays171_ren := {
  mixed := by kernel_rfl,
  f129 := Tryz.func104.trans (congrArg some (by kernel_rfl)),
  f171 := Tryz.func57.trans (congrArg some (by kernel_rfl)),
  f243 := Tryz.func79.trans (congrArg some (by kernel_rfl)),
  f246 := Tryz.func102.trans (congrArg some (by kernel_rfl)),
  f283 := Tryz.func82.trans (congrArg some (by kernel_rfl)),
  f284 := Tryz.func83.trans (congrArg some (by kernel_rfl)),
  f285 := Tryz.func84.trans (congrArg some (by kernel_rfl)),
  f286 := Tryz.func85.trans (congrArg some (by kernel_rfl)),
  f317 := Tryz.func103.trans (congrArg some (by kernel_rfl)),
  f318 := Tryz.func105.trans (congrArg some (by kernel_rfl)),
  f319 := Tryz.func106.trans (congrArg some (by kernel_rfl)),
  f320 := Tryz.func107.trans (congrArg some (by kernel_rfl)),
  f337 := Tryz.func124.trans (congrArg some (by kernel_rfl)),
  f338 := Tryz.func125.trans (congrArg some (by kernel_rfl)),
  t0 := Tryz.underlying0,
  a0 := Tryz.isAgg0,
  z0 := Tryz.sizeOf0,
  v0 := Tryz.zeroValue0,
  t2 := Tryz.underlying2,
  a2 := Tryz.isAgg2,
  z2 := Tryz.sizeOf2,
  v2 := Tryz.zeroValue2,
  t3 := Tryz.underlying3,
  a3 := Tryz.isAgg3,
  z3 := Tryz.sizeOf3,
  v3 := Tryz.zeroValue3,
  t4 := Tryz.underlying4,
  a4 := Tryz.isAgg4,
  z4 := Tryz.sizeOf4,
  v4 := Tryz.zeroValue4,
  t5 := Tryz.underlying5,
  a5 := Tryz.isAgg5,
  z5 := Tryz.sizeOf5,
  v5 := Tryz.zeroValue5,
  t9 := Tryz.underlying9,
  a9 := Tryz.isAgg9,
  z9 := Tryz.sizeOf9,
  v9 := Tryz.zeroValue9,
  t20 := Tryz.underlying20,
  a20 := Tryz.isAgg20,
  z20 := Tryz.sizeOf20,
  v20 := Tryz.zeroValue20,
  t37 := Tryz.underlying52,
  a37 := Tryz.isAgg52,
  z37 := Tryz.sizeOf52,
  v37 := Tryz.zeroValue52,
  t46 := Tryz.underlying165,
  a46 := Tryz.isAgg165,
  z46 := Tryz.sizeOf165,
  v46 := Tryz.zeroValue165,
  t51 := Tryz.underlying41,
  a51 := Tryz.isAgg41,
  z51 := Tryz.sizeOf41,
  v51 := Tryz.zeroValue41,
  t53 := Tryz.underlying40,
  a53 := Tryz.isAgg40,
  z53 := Tryz.sizeOf40,
  v53 := Tryz.zeroValue40,
  t171 := Tryz.underlying141,
  a171 := Tryz.isAgg141,
  z171 := Tryz.sizeOf141,
  v171 := Tryz.zeroValue141,
  t173 := Tryz.underlying144,
  a173 := Tryz.isAgg144,
  z173 := Tryz.sizeOf144,
  v173 := Tryz.zeroValue144,
  t212 := Tryz.underlying162,
  a212 := Tryz.isAgg162,
  z212 := Tryz.sizeOf162,
  v212 := Tryz.zeroValue162,
  t213 := Tryz.underlying163,
  a213 := Tryz.isAgg163,
  z213 := Tryz.sizeOf163,
  t232 := Tryz.underlying194,
  a232 := Tryz.isAgg194,
  z232 := Tryz.sizeOf194,
  v232 := Tryz.zeroValue194,
  t233 := Tryz.underlying195,
  a233 := Tryz.isAgg195,
  z233 := Tryz.sizeOf195,
  v233 := Tryz.zeroValue195,
  g17 := by kernel_rfl,
  g18 := by kernel_rfl,
  g19 := by kernel_rfl,
  i0 := by kernel_rfl,
  i2 := by kernel_rfl,
  i3 := by kernel_rfl,
  i4 := by kernel_rfl,
  i5 := by kernel_rfl,
  i9 := by kernel_rfl,
  i20 := by kernel_rfl,
  i37 := by kernel_rfl,
  i46 := by kernel_rfl,
  i51 := by kernel_rfl,
  i53 := by kernel_rfl,
  i171 := by kernel_rfl,
  i173 := by kernel_rfl,
  i212 := by kernel_rfl,
  i232 := by kernel_rfl,
  i233 := by kernel_rfl,
  m17 := by kernel_rfl,
  m18 := by kernel_rfl,
  m19 := by kernel_rfl
}
def lays145_ren : Go.Shelf.Ren := ⟨fun | 145 => 44 | 220 => 66 | 219 => 89 | 217 => 64 | 225 => 108 | 224 => 109 | 267 => 110 | 266 => 87 | 314 => 126 | n => n, fun | 9 => 9 | 4 => 4 | 59 => 99 | 3 => 3 | 5 => 5 | 46 => 165 | 146 => 182 | 51 => 41 | n => n, fun | 1 => 1 | n => n⟩
theorem lays145 : Go.Proofs.Lays.n145 Tryz.prog lays145_ren := {
  mixed := by kernel_rfl,
  f145 := Tryz.func44.trans (congrArg some (by kernel_rfl)),
  f217 := Tryz.func64.trans (congrArg some (by kernel_rfl)),
  f219 := Tryz.func89.trans (congrArg some (by kernel_rfl)),
  f220 := Tryz.func66.trans (congrArg some (by kernel_rfl)),
  f224 := Tryz.func109.trans (congrArg some (by kernel_rfl)),
  f225 := Tryz.func108.trans (congrArg some (by kernel_rfl)),
  f266 := Tryz.func87.trans (congrArg some (by kernel_rfl)),
  f267 := Tryz.func110.trans (congrArg some (by kernel_rfl)),
  f314 := Tryz.func126.trans (congrArg some (by kernel_rfl)),
  t3 := Tryz.underlying3,
  a3 := Tryz.isAgg3,
  z3 := Tryz.sizeOf3,
  v3 := Tryz.zeroValue3,
  t4 := Tryz.underlying4,
  a4 := Tryz.isAgg4,
  z4 := Tryz.sizeOf4,
  v4 := Tryz.zeroValue4,
  t5 := Tryz.underlying5,
  a5 := Tryz.isAgg5,
  z5 := Tryz.sizeOf5,
  v5 := Tryz.zeroValue5,
  t9 := Tryz.underlying9,
  a9 := Tryz.isAgg9,
  z9 := Tryz.sizeOf9,
  v9 := Tryz.zeroValue9,
  t46 := Tryz.underlying165,
  a46 := Tryz.isAgg165,
  z46 := Tryz.sizeOf165,
  v46 := Tryz.zeroValue165,
  t51 := Tryz.underlying41,
  a51 := Tryz.isAgg41,
  z51 := Tryz.sizeOf41,
  v51 := Tryz.zeroValue41,
  t59 := Tryz.underlying99,
  a59 := Tryz.isAgg99,
  z59 := Tryz.sizeOf99,
  v59 := Tryz.zeroValue99,
  t146 := Tryz.underlying182,
  a146 := Tryz.isAgg182,
  z146 := Tryz.sizeOf182,
  v146 := Tryz.zeroValue182,
  g1 := by kernel_rfl
}
def lays102_ren : Go.Shelf.Ren := ⟨fun | 102 => 71 | 209 => 95 | 207 => 88 | n => n, fun | 9 => 9 | 4 => 4 | 3 => 3 | n => n, fun | n => n⟩
theorem lays102 : Go.Proofs.Lays.n102 Tryz.prog lays102_ren := {
  mixed := by kernel_rfl,
  f102 := Tryz.func71.trans (congrArg some (by kernel_rfl)),
  f207 := Tryz.func88.trans (congrArg some (by kernel_rfl)),
  f209 := Tryz.func95.trans (congrArg some (by kernel_rfl)),
  t3 := Tryz.underlying3,
  a3 := Tryz.isAgg3,
  z3 := Tryz.sizeOf3,
  v3 := Tryz.zeroValue3,
  t4 := Tryz.underlying4,
  a4 := Tryz.isAgg4,
  z4 := Tryz.sizeOf4,
  v4 := Tryz.zeroValue4,
  t9 := Tryz.underlying9,
  a9 := Tryz.isAgg9,
  z9 := Tryz.sizeOf9,
  v9 := Tryz.zeroValue9
}
def lays104_ren : Go.Shelf.Ren := ⟨fun | 104 => 43 | 211 => 65 | 207 => 88 | n => n, fun | 9 => 9 | 4 => 4 | 24 => 97 | 3 => 3 | n => n, fun | n => n⟩
theorem lays104 : Go.Proofs.Lays.n104 Tryz.prog lays104_ren := {
  mixed := by kernel_rfl,
  f104 := Tryz.func43.trans (congrArg some (by kernel_rfl)),
  f207 := Tryz.func88.trans (congrArg some (by kernel_rfl)),
  f211 := Tryz.func65.trans (congrArg some (by kernel_rfl)),
  t3 := Tryz.underlying3,
  a3 := Tryz.isAgg3,
  z3 := Tryz.sizeOf3,
  v3 := Tryz.zeroValue3,
  t4 := Tryz.underlying4,
  a4 := Tryz.isAgg4,
  z4 := Tryz.sizeOf4,
  v4 := Tryz.zeroValue4,
  t9 := Tryz.underlying9,
  a9 := Tryz.isAgg9,
  z9 := Tryz.sizeOf9,
  v9 := Tryz.zeroValue9,
  t24 := Tryz.underlying97,
  a24 := Tryz.isAgg97,
  z24 := Tryz.sizeOf97,
  v24 := Tryz.zeroValue97
}
def lays161_ren : Go.Shelf.Ren := ⟨fun | 161 => 96 | 231 => 114 | 227 => 115 | 233 => 116 | 235 => 117 | 228 => 120 | 197 => 136 | 151 => 137 | 260 => 143 | 152 => 118 | 137 => 42 | 119 => 138 | 224 => 109 | 225 => 108 | 217 => 64 | 266 => 87 | n => n, fun | 9 => 9 | 4 => 4 | 3 => 3 | 5 => 5 | 117 => 174 | 116 => 173 | 0 => 0 | 124 => 177 | 105 => 190 | 21 => 21 | 119 => 203 | 46 => 165 | 139 => 206 | 138 => 205 | n => n, fun | 3 => 7 | 4 => 8 | n => n⟩
theorem lays161 : Go.Proofs.Lays.n161 Tryz.prog lays161_ren := {
  mixed := by kernel_rfl,
  f119 := Tryz.func138.trans (congrArg some (by kernel_rfl)),
  f137 := Tryz.func42.trans (congrArg some (by kernel_rfl)),
  f151 := Tryz.func137.trans (congrArg some (by kernel_rfl)),
  f152 := Tryz.func118.trans (congrArg some (by kernel_rfl)),
  f161 := Tryz.func96.trans (congrArg some (by kernel_rfl)),
  f197 := Tryz.func136.trans (congrArg some (by kernel_rfl)),
  f217 := Tryz.func64.trans (congrArg some (by kernel_rfl)),
  f224 := Tryz.func109.trans (congrArg some (by kernel_rfl)),
  f225 := Tryz.func108.trans (congrArg some (by kernel_rfl)),
  f227 := Tryz.func115.trans (congrArg some (by kernel_rfl)),
  f228 := Tryz.func120.trans (congrArg some (by kernel_rfl)),
  f231 := Tryz.func114.trans (congrArg some (by kernel_rfl)),
  f233 := Tryz.func116.trans (congrArg some (by kernel_rfl)),
  f235 := Tryz.func117.trans (congrArg some (by kernel_rfl)),
  f260 := Tryz.func143.trans (congrArg some (by kernel_rfl)),
  f266 := Tryz.func87.trans (congrArg some (by kernel_rfl)),
  t0 := Tryz.underlying0,
  a0 := Tryz.isAgg0,
  z0 := Tryz.sizeOf0,
  v0 := Tryz.zeroValue0,
  t3 := Tryz.underlying3,
  a3 := Tryz.isAgg3,
  z3 := Tryz.sizeOf3,
  v3 := Tryz.zeroValue3,
  t4 := Tryz.underlying4,
  a4 := Tryz.isAgg4,
  z4 := Tryz.sizeOf4,
  v4 := Tryz.zeroValue4,
  t5 := Tryz.underlying5,
  a5 := Tryz.isAgg5,
  z5 := Tryz.sizeOf5,
  v5 := Tryz.zeroValue5,
  t9 := Tryz.underlying9,
  a9 := Tryz.isAgg9,
  z9 := Tryz.sizeOf9,
  v9 := Tryz.zeroValue9,
  t21 := Tryz.underlying21,
  a21 := Tryz.isAgg21,
  z21 := Tryz.sizeOf21,
  v21 := Tryz.zeroValue21,
  t46 := Tryz.underlying165,
  a46 := Tryz.isAgg165,
  z46 := Tryz.sizeOf165,
  v46 := Tryz.zeroValue165,
  t105 := Tryz.underlying190,
  a105 := Tryz.isAgg190,
  z105 := Tryz.sizeOf190,
  v105 := Tryz.zeroValue190,
  t116 := Tryz.underlying173,
  a116 := Tryz.isAgg173,
  z116 := Tryz.sizeOf173,
  t117 := Tryz.underlying174,
  a117 := Tryz.isAgg174,
  z117 := Tryz.sizeOf174,
  v117 := Tryz.zeroValue174,
  t119 := Tryz.underlying203,
  a119 := Tryz.isAgg203,
  z119 := Tryz.sizeOf203,
  t124 := Tryz.underlying177,
  a124 := Tryz.isAgg177,
  z124 := Tryz.sizeOf177,
  v124 := Tryz.zeroValue177,
  t138 := Tryz.underlying205,
  a138 := Tryz.isAgg205,
  z138 := Tryz.sizeOf205,
  v138 := Tryz.zeroValue205,
  t139 := Tryz.underlying206,
  a139 := Tryz.isAgg206,
  z139 := Tryz.sizeOf206,
  v139 := Tryz.zeroValue206,
  g3 := by kernel_rfl,
  g4 := by kernel_rfl
}
def lays153_ren : Go.Shelf.Ren := ⟨fun | 153 => 97 | 152 => 118 | 226 => 119 | 227 => 115 | 228 => 120 | 137 => 42 | 119 => 138 | 224 => 109 | 225 => 108 | 217 => 64 | 266 => 87 | n => n, fun | 9 => 9 | 3 => 3 | 4 => 4 | 5 => 5 | 21 => 21 | 117 => 174 | 116 => 173 | 0 => 0 | 46 => 165 | 124 => 177 | n => n, fun | n => n⟩
theorem lays153 : Go.Proofs.Lays.n153 Tryz.prog lays153_ren := {
  mixed := by kernel_rfl,
  f119 := Tryz.func138.trans (congrArg some (by kernel_rfl)),
  f137 := Tryz.func42.trans (congrArg some (by kernel_rfl)),
  f152 := Tryz.func118.trans (congrArg some (by kernel_rfl)),
  f153 := Tryz.func97.trans (congrArg some (by kernel_rfl)),
  f217 := Tryz.func64.trans (congrArg some (by kernel_rfl)),
  f224 := Tryz.func109.trans (congrArg some (by kernel_rfl)),
  f225 := Tryz.func108.trans (congrArg some (by kernel_rfl)),
  f226 := Tryz.func119.trans (congrArg some (by kernel_rfl)),
  f227 := Tryz.func115.trans (congrArg some (by kernel_rfl)),
  f228 := Tryz.func120.trans (congrArg some (by kernel_rfl)),
  f266 := Tryz.func87.trans (congrArg some (by kernel_rfl)),
  t0 := Tryz.underlying0,
  a0 := Tryz.isAgg0,
  z0 := Tryz.sizeOf0,
  v0 := Tryz.zeroValue0,
  t3 := Tryz.underlying3,
  a3 := Tryz.isAgg3,
  z3 := Tryz.sizeOf3,
  v3 := Tryz.zeroValue3,
  t4 := Tryz.underlying4,
  a4 := Tryz.isAgg4,
  z4 := Tryz.sizeOf4,
  v4 := Tryz.zeroValue4,
  t5 := Tryz.underlying5,
  a5 := Tryz.isAgg5,
  z5 := Tryz.sizeOf5,
  v5 := Tryz.zeroValue5,
  t9 := Tryz.underlying9,
  a9 := Tryz.isAgg9,
  z9 := Tryz.sizeOf9,
  v9 := Tryz.zeroValue9,
  t21 := Tryz.underlying21,
  a21 := Tryz.isAgg21,
  z21 := Tryz.sizeOf21,
  v21 := Tryz.zeroValue21,
  t46 := Tryz.underlying165,
  a46 := Tryz.isAgg165,
  z46 := Tryz.sizeOf165,
  v46 := Tryz.zeroValue165,
  t116 := Tryz.underlying173,
  a116 := Tryz.isAgg173,
  z116 := Tryz.sizeOf173,
  t117 := Tryz.underlying174,
  a117 := Tryz.isAgg174,
  z117 := Tryz.sizeOf174,
  v117 := Tryz.zeroValue174,
  t124 := Tryz.underlying177,
  a124 := Tryz.isAgg177,
  z124 := Tryz.sizeOf177,
  v124 := Tryz.zeroValue177
}
def lays137_ren : Go.Shelf.Ren := ⟨fun | 137 => 42 | 217 => 64 | 266 => 87 | n => n, fun | 9 => 9 | 5 => 5 | 3 => 3 | n => n, fun | n => n⟩
theorem lays137 : Go.Proofs.Lays.n137 Tryz.prog lays137_ren := {
  mixed := by kernel_rfl,
  f137 := Tryz.func42.trans (congrArg some (by kernel_rfl)),
  f217 := Tryz.func64.trans (congrArg some (by kernel_rfl)),
  f266 := Tryz.func87.trans (congrArg some (by kernel_rfl)),
  t3 := Tryz.underlying3,
  a3 := Tryz.isAgg3,
  z3 := Tryz.sizeOf3,
  v3 := Tryz.zeroValue3,
  t5 := Tryz.underlying5,
  a5 := Tryz.isAgg5,
  z5 := Tryz.sizeOf5,
  v5 := Tryz.zeroValue5,
  t9 := Tryz.underlying9,
  a9 := Tryz.isAgg9,
  z9 := Tryz.sizeOf9,
  v9 := Tryz.zeroValue9
}
def lays149_ren : Go.Shelf.Ren := ⟨fun | 149 => 59 | 222 => 81 | n => n, fun | 9 => 9 | 5 => 5 | 3 => 3 | 4 => 4 | n => n, fun | n => n⟩
theorem lays149 : Go.Proofs.Lays.n149 Tryz.prog lays149_ren := {
  mixed := by kernel_rfl,
  f149 := Tryz.func59.trans (congrArg some (by kernel_rfl)),
  f222 := Tryz.func81.trans (congrArg some (by kernel_rfl)),
  t3 := Tryz.underlying3,
  a3 := Tryz.isAgg3,
  z3 := Tryz.sizeOf3,
  v3 := Tryz.zeroValue3,
  t4 := Tryz.underlying4,
  a4 := Tryz.isAgg4,
  z4 := Tryz.sizeOf4,
  v4 := Tryz.zeroValue4,
  t5 := Tryz.underlying5,
  a5 := Tryz.isAgg5,
  z5 := Tryz.sizeOf5,
  v5 := Tryz.zeroValue5,
  t9 := Tryz.underlying9,
  a9 := Tryz.isAgg9,
  z9 := Tryz.sizeOf9,
  v9 := Tryz.zeroValue9
}
def lays156_ren : Go.Shelf.Ren := ⟨fun | 156 => 101 | 165 => 123 | 166 => 19 | 169 => 22 | 240 => 38 | 241 => 139 | 276 => 61 | 277 => 144 | n => n, fun | 31 => 106 | 9 => 9 | 3 => 3 | 4 => 4 | 0 => 0 | 20 => 20 | 72 => 54 | 76 => 60 | 70 => 51 | 37 => 52 | 75 => 59 | 127 => 92 | 164 => 120 | 5 => 5 | 80 => 64 | n => n, fun | n => n⟩
theorem lays156 : Go.Proofs.Lays.n156 Tryz.prog lays156_ren := {
  mixed := by kernel_rfl,
  f156 := Tryz.func101.trans (congrArg some (by kernel_rfl)),
  f165 := Tryz.func123.trans (congrArg some (by kernel_rfl)),
  f166 := Tryz.func19.trans (congrArg some (by kernel_rfl)),
  f169 := Tryz.func22.trans (congrArg some (by kernel_rfl)),
  f240 := Tryz.func38.trans (congrArg some (by kernel_rfl)),
  f241 := Tryz.func139.trans (congrArg some (by kernel_rfl)),
  f276 := Tryz.func61.trans (congrArg some (by kernel_rfl)),
  f277 := Tryz.func144.trans (congrArg some (by kernel_rfl)),
  t0 := Tryz.underlying0,
  a0 := Tryz.isAgg0,
  z0 := Tryz.sizeOf0,
  v0 := Tryz.zeroValue0,
  t3 := Tryz.underlying3,
  a3 := Tryz.isAgg3,
  z3 := Tryz.sizeOf3,
  v3 := Tryz.zeroValue3,
  t4 := Tryz.underlying4,
  a4 := Tryz.isAgg4,
  z4 := Tryz.sizeOf4,
  v4 := Tryz.zeroValue4,
  t9 := Tryz.underlying9,
  a9 := Tryz.isAgg9,
  z9 := Tryz.sizeOf9,
  v9 := Tryz.zeroValue9,
  t20 := Tryz.underlying20,
  a20 := Tryz.isAgg20,
  z20 := Tryz.sizeOf20,
  v20 := Tryz.zeroValue20,
  t31 := Tryz.underlying106,
  a31 := Tryz.isAgg106,
  z31 := Tryz.sizeOf106,
  v31 := Tryz.zeroValue106,
  t37 := Tryz.underlying52,
  a37 := Tryz.isAgg52,
  z37 := Tryz.sizeOf52,
  v37 := Tryz.zeroValue52,
  t70 := Tryz.underlying51,
  a70 := Tryz.isAgg51,
  z70 := Tryz.sizeOf51,
  v70 := Tryz.zeroValue51,
  t72 := Tryz.underlying54,
  a72 := Tryz.isAgg54,
  z72 := Tryz.sizeOf54,
  v72 := Tryz.zeroValue54,
  t75 := Tryz.underlying59,
  a75 := Tryz.isAgg59,
  z75 := Tryz.sizeOf59,
  v75 := Tryz.zeroValue59,
  t76 := Tryz.underlying60,
  a76 := Tryz.isAgg60,
  z76 := Tryz.sizeOf60,
  v76 := Tryz.zeroValue60,
  t127 := Tryz.underlying92,
  a127 := Tryz.isAgg92,
  z127 := Tryz.sizeOf92,
  v127 := Tryz.zeroValue92,
  t164 := Tryz.underlying120,
  a164 := Tryz.isAgg120,
  z164 := Tryz.sizeOf120,
  v164 := Tryz.zeroValue120
}
def lays169_ren : Go.Shelf.Ren := ⟨fun | 169 => 22 | n => n, fun | 70 => 51 | 9 => 9 | 0 => 0 | 72 => 54 | 37 => 52 | 127 => 92 | 3 => 3 | 5 => 5 | n => n, fun | n => n⟩
theorem lays169 : Go.Proofs.Lays.n169 Tryz.prog lays169_ren := {
  mixed := by kernel_rfl,
  f169 := Tryz.func22.trans (congrArg some (by kernel_rfl)),
  t0 := Tryz.underlying0,
  a0 := Tryz.isAgg0,
  z0 := Tryz.sizeOf0,
  v0 := Tryz.zeroValue0,
  t3 := Tryz.underlying3,
  a3 := Tryz.isAgg3,
  z3 := Tryz.sizeOf3,
  v3 := Tryz.zeroValue3,
  t9 := Tryz.underlying9,
  a9 := Tryz.isAgg9,
  z9 := Tryz.sizeOf9,
  v9 := Tryz.zeroValue9,
  t37 := Tryz.underlying52,
  a37 := Tryz.isAgg52,
  z37 := Tryz.sizeOf52,
  v37 := Tryz.zeroValue52,
  t70 := Tryz.underlying51,
  a70 := Tryz.isAgg51,
  z70 := Tryz.sizeOf51,
  v70 := Tryz.zeroValue51,
  t72 := Tryz.underlying54,
  a72 := Tryz.isAgg54,
  z72 := Tryz.sizeOf54,
  v72 := Tryz.zeroValue54,
  t127 := Tryz.underlying92,
  a127 := Tryz.isAgg92,
  z127 := Tryz.sizeOf92,
  v127 := Tryz.zeroValue92
}
def lays316_ren : Go.Shelf.Ren := ⟨fun | 316 => 122 | n => n, fun | 9 => 9 | 3 => 3 | 4 => 4 | 37 => 52 | 0 => 0 | 127 => 92 | 5 => 5 | n => n, fun | n => n⟩
theorem lays316 : Go.Proofs.LaysM.n316 Tryz.prog lays316_ren := {
  mixed := by kernel_rfl,
  f316 := Tryz.func122.trans (congrArg some (by kernel_rfl)),
  t0 := Tryz.underlying0,
  a0 := Tryz.isAgg0,
  z0 := Tryz.sizeOf0,
  v0 := Tryz.zeroValue0,
  t3 := Tryz.underlying3,
  a3 := Tryz.isAgg3,
  z3 := Tryz.sizeOf3,
  v3 := Tryz.zeroValue3,
  t4 := Tryz.underlying4,
  a4 := Tryz.isAgg4,
  z4 := Tryz.sizeOf4,
  v4 := Tryz.zeroValue4,
  t9 := Tryz.underlying9,
  a9 := Tryz.isAgg9,
  z9 := Tryz.sizeOf9,
  v9 := Tryz.zeroValue9,
  t37 := Tryz.underlying52,
  a37 := Tryz.isAgg52,
  z37 := Tryz.sizeOf52,
  v37 := Tryz.zeroValue52,
  t127 := Tryz.underlying92,
  a127 := Tryz.isAgg92,
  z127 := Tryz.sizeOf92,
  v127 := Tryz.zeroValue92,
  t5 := Tryz.underlying5,
  a5 := Tryz.isAgg5,
  z5 := Tryz.sizeOf5,
  v5 := Tryz.zeroValue5,
  i0 := by kernel_rfl,
  i3 := by kernel_rfl,
  i4 := by kernel_rfl,
  i5 := by kernel_rfl,
  i9 := by kernel_rfl,
  i37 := by kernel_rfl,
  i127 := by kernel_rfl
}
def layspu14_ren : Go.Shelf.Ren := ⟨fun | 14 => 90 | 16 => 111 | 17 => 112 | 19 => 127 | 20 => 128 | 21 => 129 | 22 => 130 | 23 => 131 | 24 => 132 | 25 => 122 | 27 => 57 | 26 => 140 | 28 => 79 | 29 => 102 | 30 => 82 | 31 => 83 | 32 => 84 | 33 => 85 | 35 => 104 | 34 => 103 | 36 => 105 | 37 => 106 | 38 => 107 | 39 => 124 | 40 => 125 | n => n, fun | 9 => 9 | 3 => 3 | 22 => 40 | 24 => 59 | 25 => 149 | 4 => 4 | 34 => 184 | 5 => 5 | 36 => 165 | 37 => 52 | 0 => 0 | 39 => 186 | 21 => 21 | 44 => 197 | 47 => 92 | 50 => 202 | 48 => 200 | 2 => 2 | 52 => 141 | 55 => 144 | 59 => 162 | 60 => 41 | 20 => 20 | 61 => 163 | 65 => 194 | 66 => 195 | 67 => 64 | n => n, fun | 0 => 5 | 1 => 6 | 2 => 2 | 3 => 3 | 4 => 4 | n => n⟩
theorem layspu14 : Go.Proofs.LaysPu.n14 Tryz.prog layspu14_ren := {
  mixed := by kernel_rfl,
  f14 := Tryz.func90.trans (congrArg some (by kernel_rfl)),
  f16 := Tryz.func111.trans (congrArg some (by kernel_rfl)),
  f17 := Tryz.func112.trans (congrArg some (by kernel_rfl)),
  f19 := Tryz.func127.trans (congrArg some (by kernel_rfl)),
  f20 := Tryz.func128.trans (congrArg some (by kernel_rfl)),
  f21 := Tryz.func129.trans (congrArg some (by kernel_rfl)),
  f22 := Tryz.func130.trans (congrArg some (by kernel_rfl)),
  f23 := Tryz.func131.trans (congrArg some (by kernel_rfl)),
  f24 := Tryz.func132.trans (congrArg some (by kernel_rfl)),
  f25 := Tryz.func122.trans (congrArg some (by kernel_rfl)),
  f26 := Tryz.func140.trans (congrArg some (by kernel_rfl)),
  f27 := Tryz.func57.trans (congrArg some (by kernel_rfl)),
  f28 := Tryz.func79.trans (congrArg some (by kernel_rfl)),
  f29 := Tryz.func102.trans (congrArg some (by kernel_rfl)),
  f30 := Tryz.func82.trans (congrArg some (by kernel_rfl)),
  f31 := Tryz.func83.trans (congrArg some (by kernel_rfl)),
  f32 := Tryz.func84.trans (congrArg some (by kernel_rfl)),
  f33 := Tryz.func85.trans (congrArg some (by kernel_rfl)),
  f34 := Tryz.func103.trans (congrArg some (by kernel_rfl)),
  f35 := Tryz.func104.trans (congrArg some (by kernel_rfl)),
  f36 := Tryz.func105.trans (congrArg some (by kernel_rfl)),
  f37 := Tryz.func106.trans (congrArg some (by kernel_rfl)),
  f38 := Tryz.func107.trans (congrArg some (by kernel_rfl)),
  f39 := Tryz.func124.trans (congrArg some (by kernel_rfl)),
  f40 := Tryz.func125.trans (congrArg some (by kernel_rfl)),
  t0 := Tryz.underlying0,
  a0 := Tryz.isAgg0,
  z0 := Tryz.sizeOf0,
  v0 := Tryz.zeroValue0,
  i0 := by kernel_rfl,
  t2 := Tryz.underlying2,
  a2 := Tryz.isAgg2,
  z2 := Tryz.sizeOf2,
  v2 := Tryz.zeroValue2,
  i2 := by kernel_rfl,
  t3 := Tryz.underlying3,
  a3 := Tryz.isAgg3,
  z3 := Tryz.sizeOf3,
  v3 := Tryz.zeroValue3,
  i3 := by kernel_rfl,
  t4 := Tryz.underlying4,
  a4 := Tryz.isAgg4,
  z4 := Tryz.sizeOf4,
  v4 := Tryz.zeroValue4,
  i4 := by kernel_rfl,
  t5 := Tryz.underlying5,
  a5 := Tryz.isAgg5,
  z5 := Tryz.sizeOf5,
  v5 := Tryz.zeroValue5,
  i5 := by kernel_rfl,
  t9 := Tryz.underlying9,
  a9 := Tryz.isAgg9,
  z9 := Tryz.sizeOf9,
  v9 := Tryz.zeroValue9,
  i9 := by kernel_rfl,
  t20 := Tryz.underlying20,
  a20 := Tryz.isAgg20,
  z20 := Tryz.sizeOf20,
  v20 := Tryz.zeroValue20,
  i20 := by kernel_rfl,
  t21 := Tryz.underlying21,
  a21 := Tryz.isAgg21,
  z21 := Tryz.sizeOf21,
  v21 := Tryz.zeroValue21,
  i21 := by kernel_rfl,
  t22 := Tryz.underlying40,
  a22 := Tryz.isAgg40,
  z22 := Tryz.sizeOf40,
  v22 := Tryz.zeroValue40,
  i22 := by kernel_rfl,
  t24 := Tryz.underlying59,
  a24 := Tryz.isAgg59,
  z24 := Tryz.sizeOf59,
  v24 := Tryz.zeroValue59,
  i24 := by kernel_rfl,
  t25 := Tryz.underlying149,
  a25 := Tryz.isAgg149,
  z25 := Tryz.sizeOf149,
  v25 := Tryz.zeroValue149,
  i25 := by kernel_rfl,
  t34 := Tryz.underlying184,
  a34 := Tryz.isAgg184,
  z34 := Tryz.sizeOf184,
  v34 := Tryz.zeroValue184,
  i34 := by kernel_rfl,
  c34 := by kernel_rfl,
  t36 := Tryz.underlying165,
  a36 := Tryz.isAgg165,
  z36 := Tryz.sizeOf165,
  v36 := Tryz.zeroValue165,
  i36 := by kernel_rfl,
  t37 := Tryz.underlying52,
  a37 := Tryz.isAgg52,
  z37 := Tryz.sizeOf52,
  v37 := Tryz.zeroValue52,
  i37 := by kernel_rfl,
  t39 := Tryz.underlying186,
  a39 := Tryz.isAgg186,
  z39 := Tryz.sizeOf186,
  v39 := Tryz.zeroValue186,
  i39 := by kernel_rfl,
  t44 := Tryz.underlying197,
  a44 := Tryz.isAgg197,
  z44 := Tryz.sizeOf197,
  v44 := Tryz.zeroValue197,
  i44 := by kernel_rfl,
  t47 := Tryz.underlying92,
  a47 := Tryz.isAgg92,
  z47 := Tryz.sizeOf92,
  v47 := Tryz.zeroValue92,
  i47 := by kernel_rfl,
  t48 := Tryz.underlying200,
  a48 := Tryz.isAgg200,
  z48 := Tryz.sizeOf200,
  v48 := Tryz.zeroValue200,
  i48 := by kernel_rfl,
  t50 := Tryz.underlying202,
  a50 := Tryz.isAgg202,
  z50 := Tryz.sizeOf202,
  v50 := Tryz.zeroValue202,
  i50 := by kernel_rfl,
  t52 := Tryz.underlying141,
  a52 := Tryz.isAgg141,
  z52 := Tryz.sizeOf141,
  v52 := Tryz.zeroValue141,
  i52 := by kernel_rfl,
  t55 := Tryz.underlying144,
  a55 := Tryz.isAgg144,
  z55 := Tryz.sizeOf144,
  v55 := Tryz.zeroValue144,
  i55 := by kernel_rfl,
  t59 := Tryz.underlying162,
  a59 := Tryz.isAgg162,
  z59 := Tryz.sizeOf162,
  v59 := Tryz.zeroValue162,
  i59 := by kernel_rfl,
  t60 := Tryz.underlying41,
  a60 := Tryz.isAgg41,
  z60 := Tryz.sizeOf41,
  v60 := Tryz.zeroValue41,
  i60 := by kernel_rfl,
  t61 := Tryz.underlying163,
  a61 := Tryz.isAgg163,
  z61 := Tryz.sizeOf163,
  t65 := Tryz.underlying194,
  a65 := Tryz.isAgg194,
  z65 := Tryz.sizeOf194,
  v65 := Tryz.zeroValue194,
  i65 := by kernel_rfl,
  t66 := Tryz.underlying195,
  a66 := Tryz.isAgg195,
  z66 := Tryz.sizeOf195,
  v66 := Tryz.zeroValue195,
  i66 := by kernel_rfl,
  t67 := Tryz.underlying64,
  a67 := Tryz.isAgg64,
  z67 := Tryz.sizeOf64,
  v67 := Tryz.zeroValue64,
  i67 := by kernel_rfl,
  g0 := by kernel_rfl,
  m0 := by kernel_rfl,
  g1 := by kernel_rfl,
  m1 := by kernel_rfl,
  g2 := by kernel_rfl,
  m2 := by kernel_rfl,
  g3 := by kernel_rfl,
  m3 := by kernel_rfl,
  g4 := by kernel_rfl,
  m4 := by kernel_rfl
}

end Go.Proofs.YtppejcfghlpbjaaGreatDoor


/- A line cut at its blanks; strings.SplitN at one blank. No statement of the seat is proved here. -/
namespace Go.Proofs.YtppejcfghlpbjaaGreatDoor
open Go.RowKit Go.Shelf

/-- What stands between single blanks. -/
def pcs : List UInt8 → List (List UInt8)
  | [] => [[]]
  | c :: t => if c = 32 then [] :: pcs t else match pcs t with
    | h :: r => (c :: h) :: r
    | [] => [[c]]
theorem pcs_ne (l : List UInt8) : pcs l ≠ [] := by
  cases l with
  | nil => simp [pcs]
  | cons c t => unfold pcs; split; simp; split <;> simp
theorem pcs_le : ∀ l : List UInt8, (pcs l).length ≤ l.length + 1
  | [] => by simp [pcs]
  | c :: t => by
    have := pcs_le t
    unfold pcs
    split
    · simp; exact this
    · split
      · rename_i h; rw [h] at this; simp at this ⊢; omega
      · simp

theorem index_blank : ∀ l : List UInt8, (Lib.index l [32] = -1 ∧ pcs l = [l]) ∨ ∃ i : Nat, Lib.index l [32] = i ∧ pcs l = l.take i :: pcs (l.drop (i + 1)) ∧ i < l.length
  | [] => .inl ⟨by decide, rfl⟩
  | c :: t => by
    by_cases hc : c = 32
    · subst hc
      refine .inr ⟨0, ?_, by simp [pcs], by simp⟩
      exact Lib.index_first (i := 0) (Nat.zero_le _) (by simp [Lib.occAt]) (fun _ h => absurd h (Nat.not_lt_zero _))
    · have hno : Lib.NoOcc (c :: t) [32] 1 := fun j hj => by
        obtain rfl : j = 0 := by omega
        have hc' : ¬ (32 : UInt8) = c := fun h => hc h.symm
        simp [Lib.occAt, List.isPrefixOf, hc']
      have hd := Lib.index_drop hno (by simp)
      simp only [List.drop_succ_cons, List.drop_zero] at hd
      rcases index_blank t with ⟨h1, h2⟩ | ⟨i, h1, h2, h3⟩
      · refine .inl ⟨by rw [hd, h1]; rfl, ?_⟩
        rw [pcs, if_neg hc, h2]
      · refine .inr ⟨i + 1, ?_, ?_, by simp; omega⟩
        · rw [hd, h1, if_neg (by simp)]
          simp
        · rw [pcs, if_neg hc, h2]
          simp

/-- The first k cuts. -/
theorem splitK_pcs : ∀ (k : Nat) (l : List UInt8), ((pcs l).length ≤ k + 1 → Lib.splitK [32] 0 k l = pcs l) ∧ (k + 1 < (pcs l).length → (Lib.splitK [32] 0 k l).length = k + 1 ∧ (1 ≤ k → (Lib.splitK [32] 0 k l).head? = (pcs l).head?))
  | 0, l => by
    refine ⟨fun h => ?_, fun _ => ⟨rfl, by omega⟩⟩
    rcases index_blank l with ⟨_, h2⟩ | ⟨i, _, h2, _⟩
    · rw [h2]; rfl
    · rw [h2] at h
      have := List.length_pos_iff.2 (pcs_ne (l.drop (i + 1)))
      rw [List.length_cons] at h; omega
  | k + 1, l => by
    rcases index_blank l with ⟨h1, h2⟩ | ⟨i, h1, h2, h3⟩
    · refine ⟨fun _ => ?_, fun h => by rw [h2] at h; simp at h⟩
      rw [h2, Lib.splitK, if_pos (by rw [h1]; rfl)]
    · obtain ⟨s1, s2⟩ := splitK_pcs k (l.drop (i + 1))
      have e : Lib.splitK [32] 0 (k + 1) l = l.take i :: Lib.splitK [32] 0 k (l.drop (i + 1)) := by
        rw [Lib.splitK, if_neg (by rw [h1]; simp), h1]
        simp
      rw [e, h2]
      refine ⟨fun h => ?_, fun h => ⟨?_, fun _ => rfl⟩⟩
      · rw [s1 (by simpa using h)]
      · rw [List.length_cons, (s2 (by simpa using h)).1]

/-- The words of a line, four cuts at most. -/
def wds (l : List UInt8) : List (List UInt8) := Lib.splitK [32] 0 (min 5 (l.length + 1) - 1) l
theorem wds_few {l : List UInt8} (h : (pcs l).length ≤ 4) : wds l = pcs l := by
  have := pcs_le l
  refine (splitK_pcs _ l).1 ?_
  omega
theorem wds_many {l : List UInt8} (h : 4 < (pcs l).length) : 4 < (wds l).length := by
  have h1 := pcs_le l
  obtain ⟨a, b⟩ := splitK_pcs (min 5 (l.length + 1) - 1) l
  unfold wds
  by_cases hc : (pcs l).length ≤ min 5 (l.length + 1) - 1 + 1
  · rw [a hc]; exact h
  · rw [(b (by omega)).1]; omega
theorem wds_head (l : List UInt8) : (wds l).head? = (pcs l).head? := by
  by_cases h : (pcs l).length ≤ 4
  · rw [wds_few h]
  · have h1 := pcs_le l
    obtain ⟨a, b⟩ := splitK_pcs (min 5 (l.length + 1) - 1) l
    unfold wds
    by_cases hc : (pcs l).length ≤ min 5 (l.length + 1) - 1 + 1
    · rw [a hc]
    · exact (b (by omega)).2 (by omega)
theorem wds_le (l : List UInt8) : (wds l).length ≤ min 5 (l.length + 1) := by
  have := Lib.splitB_length_le ⟨#[32]⟩ 0 (min 5 (l.length + 1) - 1) ⟨l.toArray⟩
  have h2 := congrArg List.length (Lib.splitB_data ⟨#[32]⟩ 0 (min 5 (l.length + 1) - 1) ⟨l.toArray⟩)
  rw [List.length_map] at h2
  unfold wds
  simp at h2
  omega

theorem hi147 : (Tryz.prog.info? (lays147_ren.t 9)).map (fun i => (i.zero, i.size, i.bytes)) = some (some (.string ByteArray.empty), 1, 16) := by kernel_rfl

/-- What the calls read of the program's variables. -/
structure Gl (w : World) : Prop where
  nms : Nms w
  max : ∃ m, w.cell? ⟨lays147_ren.g 1, 0, none⟩ = some (.int .i64 m)
theorem Gl.keeps {w w' : World} (h : Gl w) (k : Keeps (fun _ => False) w w') : Gl w' := by
  obtain ⟨h1, m, h2⟩ := h
  refine ⟨h1.keeps k (fun f => f), m, ?_⟩
  rw [← h2]
  simp only [World.cell?, k.block _ (World.block_lt_of_cell? _ _ h2) (fun f => f)]

/-- Words as cells, with room behind them. -/
def wcells (L : List (List UInt8)) (n : Nat) : Array Value := (L.map (fun (x : List UInt8) => Value.string ⟨x.toArray⟩) ++ List.replicate (n - L.length) (Value.string ByteArray.empty)).toArray

theorem split_any (l : List UInt8) (hl : l.length < 4294967281) (w : World) (hw : Gl w) :
    Calls Tryz.prog 91 #[.string ⟨l.toArray⟩, .string ⟨#[32]⟩, .int .i64 5] w fun e w' => e = .returned (.slice (some ⟨w.heap.size, 0, none⟩) (wds l).length (min 5 (l.length + 1))) ∧ w' = w.alloc (.cells (wcells (wds l) (min 5 (l.length + 1))) 9) := by
  obtain ⟨m, hm⟩ := hw.max
  have hs : (⟨l.toArray⟩ : ByteArray).size = l.length := by simp [ByteArray.size]
  have h := Any.strings_SplitN lays147 hi147 ⟨l.toArray⟩ ⟨#[32]⟩ 5 m w (by rw [hs]; exact hl) hm (by decide) (by decide) (by decide)
  rw [hs] at h
  have hd := Lib.splitB_data ⟨#[32]⟩ 0 (min 5 (l.length + 1) - 1) ⟨l.toArray⟩
  have e1 : (Lib.splitB ⟨#[32]⟩ 0 (min 5 (l.length + 1) - 1) ⟨l.toArray⟩) = (wds l).map fun x => ⟨x.toArray⟩ := by
    unfold wds
    rw [show (Lib.splitK [32] 0 (min 5 (l.length + 1) - 1) l) = (Lib.splitB ⟨#[32]⟩ 0 (min 5 (l.length + 1) - 1) ⟨l.toArray⟩).map (·.data.toList) from hd.symm]
    rw [List.map_map]
    conv => lhs; rw [← List.map_id (Lib.splitB ⟨#[32]⟩ 0 (min 5 (l.length + 1) - 1) ⟨l.toArray⟩)]
    rfl
  rw [e1] at h
  simp only [List.length_map] at h
  refine h.mono fun e w' ⟨h1, h2⟩ => ⟨h1, ?_⟩
  rw [h2]
  simp [Lib.cellsOf, wcells, Function.comp_def]
  rfl
end Go.Proofs.YtppejcfghlpbjaaGreatDoor


/- Walks of Parse (package code). No statement of the seat is proved here. -/
namespace Go.Proofs.YtppejcfghlpbjaaGreatDoor
open Go.RowKit Go.Shelf

/-- The operation of a name. -/
def namedN (h : List UInt8) : Option Nat := (List.range 18).find? fun k => decide (1 ≤ k) && ((nms[k]?).getD [] == h)
/-- Words as numbers. -/
def decAll : List (List UInt8) → Option (List Int)
  | [] => some []
  | x :: t => match decL x with
    | none => none
    | some n => (decAll t).map fun r => (n : Int) :: r
/-- The instruction whose text a line is. -/
def parseL (l : List UInt8) : Option I5 := match pcs l with
  | [] => none
  | h :: ws => match namedN h with
    | none => none
    | some op => if ws.length = partsN op then match decAll ws with
        | none => none
        | some N => if regOk op N then some (insOf op N) else none
      else none

theorem nms_inj : ∀ j : Fin 18, ∀ k : Fin 18, (nms[j.val]?).getD [] = (nms[k.val]?).getD [] → j = k := by decide
theorem namedN_yes {h : List UInt8} {k : Nat} (h1 : 1 ≤ k) (h2 : k ≤ 17) (he : (nms[k]?).getD [] = h) : namedN h = some k := by
  unfold namedN
  rw [List.find?_eq_some_iff_append]
  refine ⟨by simp [h1, he], List.range k, (List.range (18 - k - 1)).map (fun x => k + 1 + x), ?_, ?_⟩
  · have : List.range 18 = List.range (k + (1 + (18 - k - 1))) := by congr 1; omega
    rw [this, List.range_add, List.range_add]
    simp [Function.comp_def, Nat.add_assoc]
  · intro a ha
    have hlt : a < k := by simpa using ha
    simp only [Bool.not_eq_true', Bool.and_eq_false_iff]
    right
    rw [beq_eq_false_iff_ne]
    intro hx
    have := nms_inj ⟨a, by omega⟩ ⟨k, by omega⟩ (by rw [hx, he])
    simp at this; omega
theorem namedN_no {h : List UInt8} (hn : ∀ k : Nat, 1 ≤ k → k ≤ 17 → (nms[k]?).getD [] ≠ h) : namedN h = none := by
  unfold namedN
  rw [List.find?_eq_none]
  intro k hk
  have hlt : k < 18 := by simpa using hk
  by_cases h1 : 1 ≤ k
  · simp [hn k h1 (by omega)]
  · simp [h1]

theorem decGo_lt : ∀ (l : List UInt8) (b : Bool) (n m : Nat), n < 18446744073709551616 → decGo b n l = some m → m < 18446744073709551616
  | [], _, n, m, hn, h => by simp [decGo] at h; omega
  | c :: t, b, n, m, hn, h => by
    rw [decGo] at h
    split at h
    · cases h
    · split at h
      · cases h
      · refine decGo_lt t _ _ _ ?_ h
        have : c.toNat < 256 := c.toNat_lt
        omega
theorem decL_lt {l : List UInt8} {m : Nat} (h : decL l = some m) : m < 18446744073709551616 := by
  unfold decL at h
  split at h
  · cases h
  · exact decGo_lt l true 0 m (by omega) h
theorem decAll_some : ∀ (ws : List (List UInt8)) (Ns : List Nat), ws.map decL = Ns.map some → decAll ws = some (Ns.map fun (n : Nat) => (n : Int))
  | [], Ns, h => by cases Ns with | nil => rfl | cons a b => simp at h
  | x :: t, Ns, h => by
    cases Ns with
    | nil => simp at h
    | cons a b =>
      simp only [List.map_cons, List.cons.injEq] at h
      simp [decAll, h.1, decAll_some t b h.2]
theorem decAll_none : ∀ (ws : List (List UInt8)) (x : List UInt8), x ∈ ws → decL x = none → decAll ws = none
  | y :: t, x, hx, h => by
    rcases List.mem_cons.1 hx with rfl | hx
    · simp [decAll, h]
    · have := decAll_none t x hx h
      rw [decAll]
      split
      · rfl
      · rw [this]; rfl
theorem pcs_part : ∀ (l x : List UInt8), x ∈ pcs l → x.length ≤ l.length
  | [], x, h => by simp [pcs] at h; simp [h]
  | c :: t, x, h => by
    unfold pcs at h
    split at h
    · rcases List.mem_cons.1 h with rfl | h
      · simp
      · have := pcs_part t x h; simp; omega
    · split at h
      · rename_i a b hq
        rcases List.mem_cons.1 h with rfl | h
        · have := pcs_part t a (by rw [hq]; simp); simp; exact this
        · have := pcs_part t x (by rw [hq]; simp [h]); simp; omega
      · simp at h; subst h; simp

/-- What Parse answers. -/
def PPost (l : List UInt8) (e : Ending) : Prop := match parseL l with
  | some i => e = .returned (.tuple #[.agg i.cells, .int .i64 0])
  | none => e = .returned (.tuple #[.agg #[.int .i64 0, .int .i64 0, .int .i64 0, .int .i64 0, .int .u64 0], .int .i64 180])

theorem info_u64 : (Tryz.prog.info? 40).map (fun i => (i.zero, i.size, i.bytes)) = some (some (.int .u64 0), 1, 8) := by kernel_rfl
theorem size_ins : (Tryz.prog.info? 45).map (·.size) = some 5 := by kernel_rfl
theorem ins_ret {fn : Func} {p u : Tmp} (h : fn.results = #[.cell p 45, .tmp u]) (tmps : Array Value) (w : World) (b : Nat) (old cs : Array Value) (hb : w.heap[b]? = some (.cells old 45 (0, 0))) (hs : cs.size = 5)
    (hp : tmps.getD p undef = .pointer (some ⟨b, 0, none⟩)) : (results fn tmps).run Tryz.prog (w.setRow b cs) = .ok (.tuple #[.agg cs, tmps.getD u undef]) (w.setRow b cs) := by
  rw [results_cell_tmp h, hp]
  simp [asAddr, run_loadVar_row (w.setRow b cs) b 45 45 cs (0, 0) _ (setRow_heap w b old cs _ _ hb) Tryz.underlying45 rfl (by rw [size_ins, hs]), Result.andThen]
theorem wpList_store_row' {P : Program} {ops : Array Oper} {rest : List Oper} {op : Oper} {a : Act} {w : World} {Q : Exit → Act → World → Prop} (hgd : op.guard = none) (ty : TypeId) (x y : Operand) (ho : op.op = .store ty x y)
    (g : Nat) (cells : Array Value) (hx : a.eval x = .pointer (some ⟨g, 0, none⟩)) (hy : a.eval y = .agg cells) (t : TypeId) (old : Array Value) (hg : w.heap[g]? = some (.cells old t (0, 0))) (hi : (P.info? ty).map (·.size) = some cells.size)
    (hold : old.size = cells.size) (h1 : cells.all (·.oneCell') = true) (h : wpList P ops Q rest (a.put op.dst undef) (w.setRow g cells)) : wpList P ops Q (op :: rest) a w :=
  wpList_plain hgd fun _ hK => wp_store_row ty x y ho g cells hx hy t old hg hi hold h1 (hK _ _ h)
theorem Keeps.row {w W : World} {b : Nat} (h : Keeps (fun _ => False) w W) (hb : w.heap.size ≤ b) (cs : Array Value) : Keeps (fun _ => False) w (W.setRow b cs) :=
  ⟨h.os, h.tape, h.output, by simpa [World.setRow] using h.size, fun k hk hs => by
    rw [← h.block k hk hs]
    simp [World.setRow, Array.getElem?_modify, show ¬ b = k by omega]⟩

set_option maxRecDepth 100000 in
set_option maxHeartbeats 4000000 in
theorem parse_any (l : List UInt8) (hl : l.length < 4294967281) (w : World) (hw : Gl w) : Calls Tryz.prog 68 #[.string ⟨l.toArray⟩] w fun e w' => PPost l e ∧ Keeps (fun _ => False) w w' := by
  have kA := (Keeps.refl (fun _ => False) w).alloc (.cells #[.int .i64 0, .int .i64 0, .int .i64 0, .int .i64 0, .int .u64 0] 45)
  have SP := split_any l hl _ (hw.keeps kA)
  have hbad : Hid (parseL l = none → PPost l (.returned (.tuple #[.agg #[.int .i64 0, .int .i64 0, .int .i64 0, .int .i64 0, .int .u64 0], .int .i64 180]))) := fun h => by unfold PPost; rw [h]
  have hgood : Hid (∀ i, parseL l = some i → PPost l (.returned (.tuple #[.agg i.cells, .int .i64 0]))) := fun i h => by unfold PPost; rw [h]
  have hhd := wds_head l
  have hwl := wds_le l
  have hfew := @wds_few l
  have hmany := @wds_many l
  have hpl := pcs_le l
  generalize hW : wds l = W at *
  obtain ⟨h, ws, hp⟩ : ∃ h ws, pcs l = h :: ws := by
    cases hq : pcs l with
    | nil => exact absurd hq (pcs_ne l)
    | cons h ws => exact ⟨h, ws, rfl⟩
  obtain ⟨rest, rfl⟩ : ∃ rest, W = h :: rest := by
    rw [hp] at hhd
    cases W with
    | nil => simp at hhd
    | cons a b => simp at hhd; subst hhd; exact ⟨b, rfl⟩
  clear hhd
  have NM := fun w hw => named_any h w hw
  go_enter Tryz.func68, Tryz.ntmps68
  go_wp2_with fail
  refine SP.mono ?_
  rintro e w1 ⟨rfl, hw1⟩
  have k1 : Keeps (fun _ => False) w w1 := by rw [hw1]; exact kA.alloc _
  have G1 := hw.keeps k1
  have b1 : w1.heap[w.heap.size + 1]? = some (.cells (wcells (h :: rest) (min 5 (l.length + 1))) 9 (0, 0)) := by rw [hw1]; exact heap_two _ _ _
  have a1 : w1.heap[w.heap.size]? = some (.cells #[.int .i64 0, .int .i64 0, .int .i64 0, .int .i64 0, .int .u64 0] 45 (0, 0)) := by
    rw [hw1]
    exact ((MapKept.heap_alloc _ _).2 _ (by simp)).trans (MapKept.heap_alloc _ _).1
  have cw : w1.cell? ⟨w.heap.size + 1, 0, none⟩ = some (.string ⟨h.toArray⟩) := by rw [cell_of_block b1]; simp [wcells]
  simp only [World.size_alloc, List.length_cons] at *
  clear hw1 SP
  have hN0 : 1 ≤ min 5 (l.length + 1) := by omega
  generalize hNN : min 5 (l.length + 1) = N at *
  go_wp2_with fail
  refine (NM _ G1.nms).mono ?_
  rintro e w2 ⟨hNP, hw2⟩
  subst hw2
  clear NM
  rcases hNP with ⟨k, hk1, hk2, hke, rfl⟩ | ⟨hno, rfl⟩
  · have PA := parts_any (k : Int) (by omega) (by omega)
    have hpn := partsN_le (op := (k : Int)) (by omega) (by omega)
    have hnn := namedN_yes hk1 hk2 hke
    by_cases hlen : rest.length = partsN k
    · obtain rfl : rest = ws := by
        by_cases h4 : (pcs l).length ≤ 4
        · have := hfew h4
          rw [hp] at this
          simpa using this
        · have := hmany (by omega); omega
      have hpar : parseL l = match decAll rest with | none => none | some N => if regOk k N then some (insOf k N) else none := by
        unfold parseL
        rw [hp]
        dsimp only
        rw [hnn]
        dsimp only
        rw [if_pos hlen]
      have hl0 : 2 ≤ N := by
        cases l with
        | nil =>
          simp only [pcs, List.cons.injEq] at hp
          have hne : ∀ j : Fin 18, 1 ≤ j.val → (nms[j.val]?).getD [] ≠ [] := by decide
          have h0 := hne ⟨k, by omega⟩ hk1
          rw [hp.1] at hke h0
          exact absurd hke h0
        | cons c t => simp at hNN; omega
      have hall : ∀ x ∈ rest, x.length ≤ 140737488355328 := by
        intro x hx
        have := pcs_part l x (by rw [hp]; simp [hx])
        omega
      have BU := built_any (k : Int) (by omega) (by omega)
      have g1 : ((rest.length : Int) + 1 != 1 + (partsN k : Int)) = false := by simp; omega
      generalize hm : partsN k = m at *
      have mk := madeCells_u64 m
      have hml : (m : Int) ≤ 3 := by omega
      have g3 : rest.length = m := hlen
      clear kA hfew hmany hwl hlen hW
      have hmk := run_make_row' (P := Tryz.prog) 22 40 (.int .u64 0) 8 Tryz.underlying22 info_u64 rfl .i64 .i64 m (by omega) (by omega)
      have q0 := lt_of_block a1
      have q1 := lt_of_block b1
      have bq := (MapKept.heap_alloc w2 (.cells (u64s (List.replicate m 0)) 40)).1
      have az := ((MapKept.heap_alloc w2 (.cells (u64s (List.replicate m 0)) 40)).2 _ q0).trans a1
      have bz := ((MapKept.heap_alloc w2 (.cells (u64s (List.replicate m 0)) 40)).2 _ q1).trans b1
      have kq := k1.alloc (.cells (u64s (List.replicate m 0)) 40)
      have hq : Hid (w2.heap.size ≠ w.heap.size ∧ w2.heap.size ≠ w.heap.size + 1 ∧ w.heap.size ≤ w2.heap.size) := ⟨by omega, by omega, by omega⟩
      rw [← mk] at bq az bz kq
      go_wp2_with (first | (go_at_call 78; refine (PA _).mono ?_; rintro e w3 ⟨rfl, hw3⟩; replace hw3 := hw3.symm; subst hw3))
      clear hmk PA g1
      go_loopw [37] (fun v wr => ∃ Ns : List Nat, v = .int .i64 Ns.length ∧ Ns.length ≤ m ∧ Hid ((rest.take Ns.length).map decL = Ns.map some ∧ wr.heap[w2.heap.size]? = some (.cells (u64s (Ns.map (fun (n : Nat) => (n : Int)) ++ List.replicate (m - Ns.length) 0)) 40 (0, 0)) ∧ wr.heap[w.heap.size]? = some (.cells #[.int .i64 0, .int .i64 0, .int .i64 0, .int .i64 0, .int .u64 0] 45 (0, 0)) ∧ wr.heap[w.heap.size + 1]? = some (.cells (wcells (h :: rest) N) 9 (0, 0)) ∧ Keeps (fun _ => False) w wr)) (fun v _ => m - (intOf v).toNat)
      case atStart => exact ⟨[], rfl, Nat.zero_le _, ⟨by simp, bq.trans (by rw [mk]; simp), az, bz, kq⟩⟩
      case round =>
        obtain ⟨Ns, rfl, hnl, hh⟩ := hrel
        clear bq az bz kq
        obtain ⟨r1, r2, r3, r4, r5⟩ := hh.out
        by_cases hlt : Ns.length < m
        · have hli : (Ns.length : Int) < m := by omega
          have hlr : Ns.length < rest.length := by omega
          have DA := decimal_any (rest[Ns.length]'hlr) (hall _ (List.getElem_mem hlr)) wr
          have cx : wr.cell? ⟨w.heap.size + 1, 1 + Ns.length, none⟩ = some (.string ⟨(rest[Ns.length]'hlr).toArray⟩) := by
            rw [cell_of_block r4, Nat.add_comm]
            simp [wcells, List.getElem?_append_left, hlr]
          have hxm := List.getElem_mem hlr
          generalize hx : rest[Ns.length]'hlr = x at *
          clear r1 r2 r3 r4 r5
          go_wp2_with fail
          refine DA.mono ?_
          rintro e w3 ⟨hd, k3⟩
          unfold DPost at hd
          subst hd
          obtain ⟨r1, r2, r3, r4, r5⟩ := hh.out
          have s2 := (k3.block _ (lt_of_block r2) (fun f => f)).trans r2
          have s3 := (k3.block _ (lt_of_block r3) (fun f => f)).trans r3
          have s4 := (k3.block _ (lt_of_block r4) (fun f => f)).trans r4
          have s5 := r5.trans k3
          have cq : ∃ v, w3.cell? ⟨w2.heap.size, Ns.length, none⟩ = some v := by
            rw [cell_of_block s2]
            exact ⟨_, Array.getElem?_eq_getElem (by rw [u64s_size]; simp; omega)⟩
          obtain ⟨vq, cq⟩ := cq
          have fq := frozen_of_block s2 Ns.length
          have KS : ∀ n : Int, Keeps (fun _ => False) w (w3.setCell ⟨w2.heap.size, Ns.length, none⟩ (.int .u64 n)) := fun n => s5.setCell (.inl hq.out.2.2) _
          have t3 : ∀ n : Int, (w3.setCell ⟨w2.heap.size, Ns.length, none⟩ (.int .u64 n)).heap[w.heap.size]? = some (.cells #[.int .i64 0, .int .i64 0, .int .i64 0, .int .i64 0, .int .u64 0] 45 (0, 0)) := fun n => (Below.heap_setCell _ _ _ _ (by exact hq.out.1.symm)).trans s3
          have t4 : ∀ n : Int, (w3.setCell ⟨w2.heap.size, Ns.length, none⟩ (.int .u64 n)).heap[w.heap.size + 1]? = some (.cells (wcells (h :: rest) N) 9 (0, 0)) := fun n => (Below.heap_setCell _ _ _ _ (by exact hq.out.2.1.symm)).trans s4
          have t2 := fun n : Int => block_set s2 Ns.length (.int .u64 n)
          cases hdx : decL x with
          | none =>
            have hR := hbad.out (by rw [hpar, decAll_none rest x hxm hdx])
            have T3 := t3 0
            have kz := (KS 0).row (Nat.le_refl w.heap.size) #[.int .i64 0, .int .i64 0, .int .i64 0, .int .i64 0, .int .u64 0]
            clear DA r1 r2 r3 r4 r5 s2 s3 s4 s5 t2 t3 t4 KS hh cx
            simp only [Option.getD_none, Option.isSome_none]
            go_wp2_with (refine wpList_store_row' rfl 45 _ _ rfl w.heap.size _ rfl rfl 45 _ T3 size_ins rfl (by simp [Value.oneCell']) ?_)
            refine bodyPost_ret (ins_ret rfl _ _ w.heap.size _ _ T3 rfl rfl) rfl ?_
            exact ⟨hR, kz⟩
          | some n =>
            have T2 := t2 n
            have T3 := t3 n
            have T4 := t4 n
            have T5 := KS n
            clear DA r2 r3 r4 r5 s2 s3 s4 s5 t2 t3 t4 KS hh cx
            simp only [Option.getD_some, Option.isSome_some]
            go_wp2_with fail
            go_roundw
            · refine ⟨Ns ++ [n], by simp, by simp; omega, ⟨?_, ?_, T3, T4, T5⟩⟩
              · rw [List.length_append, List.length_singleton, List.take_succ_eq_append_getElem hlr, hx]
                simp [r1, hdx]
              · rw [T2, u64s_set]
                congr 2
                congr 1
                rw [List.set_append_right _ _ (by simp)]
                simp only [List.length_map, Nat.sub_self, List.map_append, List.map_cons, List.map_nil, List.append_assoc, List.length_append, List.length_singleton]
                congr 1
                obtain ⟨d, hd⟩ : ∃ d, m - Ns.length = d + 1 := ⟨m - Ns.length - 1, by omega⟩
                rw [hd, List.replicate_succ, List.set_cons_zero, show m - (Ns.length + 1) = d by omega]
                rfl
            · simp [intOf]; omega
        · obtain hlm : Ns.length = m := by omega
          have hli : ¬ (Ns.length : Int) < m := by omega
          rw [show rest.take Ns.length = rest by rw [hlm, ← g3]; simp] at r1
          rw [hlm, Nat.sub_self, List.replicate_zero, List.append_nil] at r2
          have hD := decAll_some rest Ns r1
          have hb : ∀ x ∈ Ns.map (fun (n : Nat) => (n : Int)), 0 ≤ x ∧ x < 18446744073709551616 := by
            intro x hx
            obtain ⟨n, hn, rfl⟩ := List.mem_map.1 hx
            have : some n ∈ rest.map decL := by rw [r1]; exact List.mem_map.2 ⟨n, hn, rfl⟩
            obtain ⟨y, _, hy⟩ := List.mem_map.1 this
            have := decL_lt hy
            omega
          rw [hD] at hpar
          dsimp only at hpar
          have BB := BU (Ns.map (fun (n : Nat) => (n : Int))) (by simpa using hlm) hb wr w2.heap.size r2
          have hlen : (Ns.map (fun (n : Nat) => (n : Int))).length = m := by simpa using hlm
          rw [hlen] at BB
          generalize Ns.map (fun (n : Nat) => (n : Int)) = NN at *
          clear hh r1 r2 r4 BU cw b1 hD hb hlen
          rw [hlm]
          go_wp2_with fail
          refine BB.mono ?_
          rintro e w3 ⟨hU, k3⟩
          have s3 := (k3.block _ (lt_of_block r3) (fun f => f)).trans r3
          have s5 := r5.trans k3
          obtain ⟨U1, U2⟩ := hU
          cases hreg : regOk k NN with
          | false =>
            have he := U2 hreg
            subst he
            have hR := hbad.out (by rw [hpar, hreg]; rfl)
            have T3 := ((MapKept.heap_alloc w3 (.cells #[.int .i64 0, .int .i64 0, .int .i64 0, .int .i64 0, .int .u64 0] 45)).2 _ (lt_of_block s3)).trans s3
            have kz := (s5.alloc (.cells #[.int .i64 0, .int .i64 0, .int .i64 0, .int .i64 0, .int .u64 0] 45)).row (Nat.le_refl w.heap.size) #[.int .i64 0, .int .i64 0, .int .i64 0, .int .i64 0, .int .u64 0]
            clear BB U1 U2 hpar hbad hgood s5 r5 r3
            go_wp2_with (refine wpList_store_row' rfl 45 _ _ rfl w.heap.size _ rfl rfl 45 _ T3 size_ins rfl (by simp [Value.oneCell']) ?_)
            refine bodyPost_ret (ins_ret rfl _ _ w.heap.size _ _ T3 rfl rfl) rfl ?_
            exact ⟨hR, kz⟩
          | true =>
            have he := U1 hreg
            subst he
            rw [hreg] at hpar
            have hR := hgood.out _ hpar
            generalize insOf k NN = ii at *
            obtain ⟨op, a, b, c, n⟩ := ii
            have T3 := ((MapKept.heap_alloc w3 (.cells #[.int .i64 op, .int .i64 a, .int .i64 b, .int .i64 c, .int .u64 n] 45)).2 _ (lt_of_block s3)).trans s3
            have kz := (s5.alloc (.cells #[.int .i64 op, .int .i64 a, .int .i64 b, .int .i64 c, .int .u64 n] 45)).row (Nat.le_refl w.heap.size) #[.int .i64 op, .int .i64 a, .int .i64 b, .int .i64 c, .int .u64 n]
            clear BB U1 U2 hpar hbad hgood s5 r5 r3
            dsimp only [I5.cells] at *
            go_wp2_with (refine wpList_store_row' rfl 45 _ _ rfl w.heap.size _ rfl rfl 45 _ T3 size_ins rfl (by simp [Value.oneCell']) ?_)
            refine bodyPost_ret (ins_ret rfl _ _ w.heap.size _ _ T3 rfl rfl) rfl ?_
            exact ⟨hR, kz⟩
    · have hpar : parseL l = none := by
        unfold parseL
        rw [hp]
        dsimp only
        rw [hnn]
        dsimp only
        rw [if_neg]
        intro hc
        by_cases h4 : (pcs l).length ≤ 4
        · have := hfew h4
          rw [hp] at this
          simp at this
          rw [← this] at hc
          exact hlen hc
        · rw [hp, List.length_cons] at h4; omega
      have hR := hbad.out hpar
      have g1 : ((rest.length : Int) + 1 != 1 + (partsN k : Int)) = true := by simp; omega
      have kz := k1.row (Nat.le_refl w.heap.size) #[.int .i64 0, .int .i64 0, .int .i64 0, .int .i64 0, .int .u64 0]
      generalize partsN k = m at *
      generalize rest.length = rl at *
      clear hbad hgood hfew hmany hpar hnn hlen cw b1 kA
      go_wp2_with (first | (go_at_call 78; refine (PA _).mono ?_; rintro e w3 ⟨rfl, hw3⟩; replace hw3 := hw3.symm; subst hw3) | (refine wpList_store_row' rfl 45 _ _ rfl w.heap.size _ rfl rfl 45 _ a1 size_ins rfl (by simp [Value.oneCell']) ?_))
      refine bodyPost_ret (ins_ret rfl _ _ w.heap.size _ _ a1 rfl rfl) rfl ?_
      exact ⟨hR, kz⟩
  · have hpar : parseL l = none := by
      unfold parseL
      rw [hp]
      dsimp only
      rw [namedN_no hno]
    have hR := hbad.out hpar
    have kz := k1.row (Nat.le_refl w.heap.size) #[.int .i64 0, .int .i64 0, .int .i64 0, .int .i64 0, .int .u64 0]
    clear hbad hgood hfew hmany hpar cw b1 kA
    go_wp2_with (refine wpList_store_row' rfl 45 _ _ rfl w.heap.size _ rfl rfl 45 _ a1 size_ins rfl (by simp [Value.oneCell']) ?_)
    refine bodyPost_ret (ins_ret rfl _ _ w.heap.size _ _ a1 rfl rfl) rfl ?_
    exact ⟨hR, kz⟩
end Go.Proofs.YtppejcfghlpbjaaGreatDoor


/- Texts cut into lines, lines cut into words. No statement of the seat is proved here. -/
namespace Go.Proofs.YtppejcfghlpbjaaGreatDoor

/-- A blank. -/
def blk (c : UInt8) : Bool := c == 32 || c == 9
/-- The word with which a line begins: up to a blank, or up to a colon with that; and what stands behind it. -/
def wordOf : List UInt8 → List UInt8 × List UInt8
  | [] => ([], [])
  | c :: t => if c = 58 then ([58], t) else if blk c then ([], c :: t) else (c :: (wordOf t).1, (wordOf t).2)
def nextW (l : List UInt8) : List UInt8 × List UInt8 := wordOf (l.dropWhile blk)
theorem wordOf_len : ∀ l : List UInt8, (wordOf l).1.length + (wordOf l).2.length = l.length
  | [] => rfl
  | c :: t => by
    have := wordOf_len t
    unfold wordOf
    split
    · simp; omega
    · split
      · simp
      · simp; omega
theorem dropWhile_len (p : UInt8 → Bool) : ∀ l : List UInt8, (l.dropWhile p).length ≤ l.length
  | [] => by simp
  | c :: t => by
    have := dropWhile_len p t
    rw [List.dropWhile_cons]
    split
    · simp; omega
    · simp
theorem nextW_len (l : List UInt8) : (nextW l).1.length + (nextW l).2.length ≤ l.length := by
  have := wordOf_len (l.dropWhile blk)
  have := dropWhile_len blk l
  unfold nextW; omega
/-- All words of a line. -/
def toks (l : List UInt8) : List (List UInt8) :=
  if h : (nextW l).1 = [] then [] else (nextW l).1 :: (have _ := h; toks (nextW l).2)
termination_by l.length
decreasing_by
  have := nextW_len l
  have := List.length_pos_iff.2 h
  omega
theorem toks_nil {l : List UInt8} (h : (nextW l).1 = []) : toks l = [] := by rw [toks, dif_pos h]
theorem toks_cons {l : List UInt8} (h : (nextW l).1 ≠ []) : toks l = (nextW l).1 :: toks (nextW l).2 := by rw [toks, dif_neg h]

/-- The word by the place at which it ends. -/
def brk (c : UInt8) : Bool := blk c || c == 58
theorem wordOf_no : ∀ l : List UInt8, (∀ c ∈ l, brk c = false) → wordOf l = (l, [])
  | [], _ => rfl
  | c :: t, h => by
    have hc := h c (by simp)
    simp only [brk, Bool.or_eq_false_iff, beq_eq_false_iff_ne] at hc
    have := wordOf_no t (fun d hd => h d (by simp [hd]))
    rw [wordOf, if_neg hc.2, if_neg (by simp [hc.1]), this]
theorem wordOf_at : ∀ (l : List UInt8) (i : Nat) (hi : i < l.length), (∀ j (hj : j < i), brk (l[j]'(by omega)) = false) → brk (l[i]) = true → wordOf l = if l[i] = 58 then (l.take (i + 1), l.drop (i + 1)) else (l.take i, l.drop i)
  | c :: t, 0, _, _, hb => by
    simp only [List.getElem_cons_zero] at hb ⊢
    unfold wordOf
    by_cases hc : c = 58
    · simp [hc]
    · simp only [brk, Bool.or_eq_true, beq_iff_eq, hc, or_false] at hb
      simp [hc, hb]
  | c :: t, i + 1, hi, hn, hb => by
    have hc := hn 0 (by omega)
    simp only [List.getElem_cons_zero, brk, Bool.or_eq_false_iff, beq_eq_false_iff_ne] at hc
    have := wordOf_at t i (by simpa using hi) (fun j hj => by have := hn (j + 1) (by omega); simpa using this) (by simpa using hb)
    rw [wordOf, if_neg hc.2, if_neg (by simp [hc.1]), this]
    simp only [List.getElem_cons_succ]
    split <;> simp
/-- A word has no blank, and a colon only at its end. -/
theorem wordOf_form : ∀ l : List UInt8, (∀ c ∈ (wordOf l).1, blk c = false) ∧ (∀ c ∈ (wordOf l).1.dropLast, c ≠ 58)
  | [] => by simp [wordOf]
  | c :: t => by
    obtain ⟨h1, h2⟩ := wordOf_form t
    unfold wordOf
    split
    · rename_i h; subst h; simp [blk]
    · rename_i hc
      split
      · simp
      · rename_i hb
        refine ⟨?_, ?_⟩
        · intro d hd
          simp only [List.mem_cons] at hd
          rcases hd with rfl | hd
          · simpa using hb
          · exact h1 d hd
        · intro d hd
          cases hw : (wordOf t).1 with
          | nil => rw [hw] at hd; simp at hd
          | cons x y =>
            rw [hw] at hd h2
            simp only [List.dropLast_cons_cons, List.mem_cons] at hd
            rcases hd with rfl | hd
            · exact hc
            · exact h2 d hd
theorem nextW_form (l : List UInt8) : (∀ c ∈ (nextW l).1, blk c = false) ∧ (∀ c ∈ (nextW l).1.dropLast, c ≠ 58) := wordOf_form _
theorem toks_form (l : List UInt8) : ∀ t ∈ toks l, t ≠ [] ∧ (∀ c ∈ t, blk c = false) ∧ (∀ c ∈ t.dropLast, c ≠ 58) := by
  intro t ht
  by_cases h : (nextW l).1 = []
  · rw [toks_nil h] at ht; simp at ht
  · rw [toks_cons h] at ht
    rcases List.mem_cons.1 ht with rfl | ht
    · exact ⟨h, nextW_form l⟩
    · have := nextW_len l
      have := List.length_pos_iff.2 h
      exact toks_form _ t ht
termination_by l.length

/-- The lines of a text, each with the byte 10 that ends it; the last one may have none. -/
def linesL : List UInt8 → List (List UInt8)
  | [] => []
  | c :: t => if c = 10 then [10] :: linesL t else match linesL t with
    | [] => [[c]]
    | h :: r => (c :: h) :: r
theorem linesL_ne {l : List UInt8} (h : l ≠ []) : linesL l ≠ [] := by
  cases l with
  | nil => exact absurd rfl h
  | cons c t => unfold linesL; split; simp; split <;> simp
/-- No byte 10: it is one line. -/
theorem linesL_one : ∀ l : List UInt8, l ≠ [] → (∀ c ∈ l, c ≠ 10) → linesL l = [l]
  | [c], _, h => by simp [linesL, h c (by simp)]
  | c :: d :: t, _, h => by
    have := linesL_one (d :: t) (by simp) (fun x hx => h x (by simp [hx]))
    rw [linesL, if_neg (h c (by simp)), this]
/-- A line up to its byte 10, and the others. -/
theorem linesL_cut : ∀ (l : List UInt8) (i : Nat) (hi : i < l.length), (∀ j (hj : j < i), l[j]'(by omega) ≠ 10) → l[i] = 10 → linesL l = l.take (i + 1) :: linesL (l.drop (i + 1))
  | c :: t, 0, _, _, h => by
    simp only [List.getElem_cons_zero] at h
    subst h
    simp [linesL]
  | c :: t, i + 1, hi, hn, h => by
    have hc := hn 0 (by omega)
    simp only [List.getElem_cons_zero] at hc
    have := linesL_cut t i (by simpa using hi) (fun j hj => by have := hn (j + 1) (by omega); simpa using this) (by simpa using h)
    rw [linesL, if_neg hc, this]
    simp
end Go.Proofs.YtppejcfghlpbjaaGreatDoor


/- Texts of instructions, there and back: pure facts. No statement of the seat is proved here. -/
namespace Go.Proofs.YtppejcfghlpbjaaGreatDoor
open Go.RowKit Go.Shelf

def regL (i : I5) : List Int := [i.a, i.b, i.c].take (regsN i.op)
theorem numL_eq {i : I5} (h : formedB i = true) : numL i = regL i ++ (if numB i.op then [i.n] else []) := by
  obtain ⟨⟨h0, h1⟩, -⟩ := formed_facts h
  obtain ⟨op, a, b, c, n⟩ := i
  dsimp only at h0 h1
  have hrn : (regsN op = 0 ∧ numB op = false) ∨ (regsN op = 0 ∧ numB op = true) ∨ (regsN op = 1 ∧ numB op = true) ∨ (regsN op = 2 ∧ numB op = false) ∨ (regsN op = 3 ∧ numB op = false) := by
    rcases op17 h0 h1 with rfl | rfl | rfl | rfl | rfl | rfl | rfl | rfl | rfl | rfl | rfl | rfl | rfl | rfl | rfl | rfl | rfl <;> decide
  unfold numL num3 regL partsN
  dsimp only
  rcases hrn with ⟨hr, hn⟩ | ⟨hr, hn⟩ | ⟨hr, hn⟩ | ⟨hr, hn⟩ | ⟨hr, hn⟩ <;> rw [hr, hn] <;> rfl

set_option maxRecDepth 100000 in
set_option maxHeartbeats 4000000 in
theorem pcs_word : ∀ x : List UInt8, (32 : UInt8) ∉ x → pcs x = [x]
  | [], _ => rfl
  | c :: t, h => by
    have h1 : ¬ c = 32 := fun e => h (by simp [e])
    have h2 := pcs_word t (fun e => h (by simp [e]))
    rw [pcs, if_neg h1, h2]
theorem pcs_blank : ∀ (x t : List UInt8), (32 : UInt8) ∉ x → pcs (x ++ 32 :: t) = x :: pcs t
  | [], t, _ => by simp [pcs]
  | c :: x, t, h => by
    have h1 : ¬ c = 32 := fun e => h (by simp [e])
    have h2 := pcs_blank x t (fun e => h (by simp [e]))
    rw [List.cons_append, pcs, if_neg h1, h2]
theorem dec_mem (n : Nat) : ∀ c ∈ Lib.decDigits n, 48 ≤ c.toNat ∧ c.toNat ≤ 57 := by
  induction n using Nat.strongRecOn with
  | ind n ih =>
    intro c hc
    by_cases h : n < 10
    · rw [Lib.decDigits, dif_pos h] at hc
      simp only [List.mem_singleton] at hc
      rw [hc, byte_of n h]; omega
    · rw [Lib.decDigits, dif_neg h] at hc
      rcases List.mem_append.1 hc with hc | hc
      · exact ih (n / 10) (by omega) c hc
      · simp only [List.mem_singleton] at hc
        rw [hc, byte_of (n % 10) (by omega)]; omega
theorem dec_noblank (n : Nat) : (32 : UInt8) ∉ Lib.decDigits n := fun h => by
  have := dec_mem n 32 h
  simp at this
theorem dec_ne (n : Nat) : Lib.decDigits n ≠ [] := by
  intro h
  have h1 := Lib.decDigits_length n
  have h2 := Lib.nDigits_pos n
  rw [h] at h1
  simp at h1
  omega
theorem pcs_text : ∀ (N : List Int) (x : List UInt8), (32 : UInt8) ∉ x → pcs (x ++ blanked N) = x :: N.map fun n => Lib.decDigits n.toNat
  | [], x, h => by simpa [blanked] using pcs_word x h
  | n :: N, x, h => by
    have e : x ++ blanked (n :: N) = x ++ 32 :: (Lib.decDigits n.toNat ++ blanked N) := by simp [blanked]
    rw [e, pcs_blank _ _ h, pcs_text N _ (dec_noblank _)]
    rfl

theorem decGo_snoc : ∀ (l : List UInt8) (b : Bool) (m : Nat) (c : UInt8), decGo b m (l ++ [c]) = (decGo b m l).bind fun n => decGo (b && l.isEmpty) n [c]
  | [], b, m, c => by simp [decGo]
  | x :: l, b, m, c => by
    rw [List.cons_append, decGo, decGo]
    split
    · rfl
    · split
      · rfl
      · rw [decGo_snoc l false _ c]
        simp
theorem dec_back (n : Nat) (hn : n < 18446744073709551616) : decGo true 0 (Lib.decDigits n) = some n := by
  induction n using Nat.strongRecOn with
  | ind n ih =>
    by_cases h : n < 10
    · rw [Lib.decDigits, dif_pos h, decGo, byte_of n h, if_neg (by simp; omega), if_neg (by omega), decGo]
      simp
    · rw [Lib.decDigits, dif_neg h, decGo_snoc, ih (n / 10) (by omega) (by omega), Option.bind_some]
      have he : (Lib.decDigits (n / 10)).isEmpty = false := by simpa using dec_ne (n / 10)
      rw [he, decGo, byte_of (n % 10) (by omega), if_neg (by simp; omega), if_neg (by omega), decGo]
      congr 1
      omega
theorem decL_back (n : Nat) (hn : n < 18446744073709551616) : decL (Lib.decDigits n) = some n := by
  unfold decL
  rw [if_neg (dec_ne n), dec_back n hn]
theorem decAll_back : ∀ N : List Int, (∀ x ∈ N, 0 ≤ x ∧ x < 18446744073709551616) → decAll (N.map fun n => Lib.decDigits n.toNat) = some N
  | [], _ => rfl
  | n :: N, h => by
    have h1 := h n (by simp)
    have h2 := decAll_back N (fun x hx => h x (by simp [hx]))
    rw [List.map_cons, decAll, decL_back n.toNat (by omega)]
    dsimp only
    rw [h2]
    simp
    omega

theorem ins_back {i : I5} (h : formedB i = true) : (numL i).length = partsN i.op ∧ regOk i.op (numL i) = true ∧ insOf i.op (numL i) = i := by
  have HL := numL_eq h
  have hf := formed_facts h
  unfold formedB at h
  simp only [Bool.and_eq_true, decide_eq_true_eq, Bool.or_eq_true] at h
  obtain ⟨⟨⟨⟨h1, h2⟩, h3⟩, h4⟩, h5⟩ := h
  replace h3 := okR_yes h3
  replace h4 := okR_yes h4
  replace h5 := okR_yes h5
  obtain ⟨op, a, b, c, n⟩ := i
  dsimp only at *
  have hrn : (regsN op = 0 ∧ numB op = false) ∨ (regsN op = 0 ∧ numB op = true) ∨ (regsN op = 1 ∧ numB op = true) ∨ (regsN op = 2 ∧ numB op = false) ∨ (regsN op = 3 ∧ numB op = false) := by
    rcases op17 h1.1 h1.2 with rfl | rfl | rfl | rfl | rfl | rfl | rfl | rfl | rfl | rfl | rfl | rfl | rfl | rfl | rfl | rfl | rfl <;> decide
  have hn0 := hf.2.1
  rw [HL]
  unfold regL partsN regOk insOf
  dsimp only
  rcases hrn with ⟨hr, hn⟩ | ⟨hr, hn⟩ | ⟨hr, hn⟩ | ⟨hr, hn⟩ | ⟨hr, hn⟩ <;> rw [hr] at h3 h4 h5 <;> rw [hr, hn]
  · obtain rfl : a = 0 := by omega
    obtain rfl : b = 0 := by omega
    obtain rfl : c = 0 := by omega
    obtain rfl : n = 0 := hn0 hn
    exact ⟨rfl, rfl, rfl⟩
  · obtain rfl : a = 0 := by omega
    obtain rfl : b = 0 := by omega
    obtain rfl : c = 0 := by omega
    exact ⟨rfl, rfl, rfl⟩
  · obtain rfl : b = 0 := by omega
    obtain rfl : c = 0 := by omega
    exact ⟨rfl, by simp; omega, rfl⟩
  · obtain rfl : c = 0 := by omega
    obtain rfl : n = 0 := hn0 hn
    exact ⟨rfl, by simp; omega, rfl⟩
  · obtain rfl : n = 0 := hn0 hn
    exact ⟨rfl, by simp; omega, rfl⟩

theorem nms_noblank : ∀ k : Fin 18, (32 : UInt8) ∉ (nms[k.val]?).getD [] := by decide

/-- Parse of Text is the instruction. -/
theorem parse_text {i : I5} (h : formedB i = true) (hn0 : 0 ≤ i.n) (hn : i.n < 18446744073709551616) : parseL (textL i) = some i := by
  obtain ⟨⟨h0, h1⟩, -⟩ := formed_facts h
  obtain ⟨b1, b2, b3⟩ := ins_back h
  have hN : ∀ x ∈ numL i, 0 ≤ x ∧ x < 18446744073709551616 := fun x hx => num3_bound h hn0 hn x (List.mem_of_mem_take hx)
  unfold parseL textL
  rw [pcs_text _ _ (nms_noblank ⟨i.op.toNat, by omega⟩)]
  dsimp only
  rw [namedN_yes (k := i.op.toNat) (by omega) (by omega) rfl]
  dsimp only
  rw [show ((i.op.toNat : Nat) : Int) = i.op by omega, if_pos (by simpa using b1), decAll_back _ hN]
  dsimp only
  rw [if_pos b2, b3]
theorem pcs_join : ∀ (l h : List UInt8) (ws : List (List UInt8)), pcs l = h :: ws → l = h ++ ws.flatMap fun x => 32 :: x
  | [], h, ws, e => by simp [pcs] at e; obtain ⟨rfl, rfl⟩ := e; rfl
  | c :: t, h, ws, e => by
    unfold pcs at e
    split at e
    · rename_i hc
      simp at e
      obtain ⟨rfl, e⟩ := e
      obtain ⟨h', ws', hp⟩ : ∃ h ws, pcs t = h :: ws := by
        cases hq : pcs t with
        | nil => exact absurd hq (pcs_ne t)
        | cons h ws => exact ⟨h, ws, rfl⟩
      have := pcs_join t h' ws' hp
      rw [hp] at e
      rw [← e, hc, this]
      simp
    · split at e
      · rename_i a b hq
        simp at e
        obtain ⟨rfl, rfl⟩ := e
        have := pcs_join t a _ hq
        rw [List.cons_append, ← this]
      · rename_i hq
        exact absurd hq (pcs_ne t)

theorem dec_forth : ∀ (k : Nat) (x : List UInt8) (n : Nat), x.length = k → x ≠ [] → decGo true 0 x = some n → x = Lib.decDigits n := by
  intro k
  induction k with
  | zero => intro x n h1 h2; exact absurd (List.length_eq_zero_iff.1 h1) h2
  | succ k ih =>
    intro x n h1 h2 h3
    obtain ⟨y, c, rfl⟩ : ∃ y c, x = y ++ [c] := ⟨x.dropLast, x.getLast h2, (List.dropLast_concat_getLast h2).symm⟩
    rw [decGo_snoc] at h3
    obtain ⟨m, hm, h4⟩ := Option.bind_eq_some_iff.1 h3
    rw [decGo] at h4
    split at h4
    · cases h4
    · rename_i hc
      split at h4
      · cases h4
      · rename_i hb
        rw [decGo] at h4
        have hn : m * 10 + (c.toNat - 48) = n := Option.some.inj h4
        have hcc : c = UInt8.ofNat (48 + (c.toNat - 48)) := by
          apply UInt8.toNat.inj
          rw [byte_of (c.toNat - 48) (by omega)]
          omega
        by_cases hy : y = []
        · subst hy
          simp [decGo] at hm
          subst hm
          rw [Lib.decDigits, dif_pos (by omega), ← hn]
          simpa using hcc
        · have hye : y.isEmpty = false := by simpa using hy
          rw [hye] at hc
          have hm0 : m ≠ 0 := fun e => hc (.inr (.inr ⟨rfl, e⟩))
          have := ih y m (by simpa using h1) hy hm
          rw [Lib.decDigits, dif_neg (by omega), show n / 10 = m by omega, ← this, show n % 10 = c.toNat - 48 by omega, ← hcc]
theorem decL_forth {x : List UInt8} {n : Nat} (h : decL x = some n) : x = Lib.decDigits n := by
  unfold decL at h
  split at h
  · cases h
  · rename_i hne
    exact dec_forth _ x n rfl hne h
theorem decAll_forth : ∀ (ws : List (List UInt8)) (N : List Int), decAll ws = some N → ws = N.map (fun n => Lib.decDigits n.toNat) ∧ ∀ x ∈ N, 0 ≤ x ∧ x < 18446744073709551616
  | [], N, h => by simp [decAll] at h; subst h; exact ⟨rfl, by simp⟩
  | y :: t, N, h => by
    rw [decAll] at h
    split at h
    · cases h
    · rename_i m hm
      obtain ⟨R, hR, rfl⟩ := Option.map_eq_some_iff.1 h
      obtain ⟨h1, h2⟩ := decAll_forth t R hR
      have hl := decL_lt hm
      refine ⟨?_, ?_⟩
      · rw [List.map_cons, ← h1, ← decL_forth (n := (m : Int).toNat) (by simpa using hm)]
      · intro x hx
        rcases List.mem_cons.1 hx with rfl | hx
        · omega
        · exact h2 x hx
theorem namedN_forth {h : List UInt8} {k : Nat} (e : namedN h = some k) : 1 ≤ k ∧ k ≤ 17 ∧ (nms[k]?).getD [] = h := by
  have h1 := List.find?_some e
  have h2 := List.mem_of_find?_eq_some e
  simp only [Bool.and_eq_true, decide_eq_true_eq, beq_iff_eq] at h1
  have : k < 18 := by simpa using h2
  exact ⟨h1.1, by omega, h1.2⟩

theorem ins_forth {op : Int} {N : List Int} (h0 : 1 ≤ op) (h1 : op ≤ 17) (hN : N.length = partsN op) (hb : ∀ x ∈ N, 0 ≤ x ∧ x < 18446744073709551616) (hreg : regOk op N = true) :
    formedB (insOf op N) = true ∧ numL (insOf op N) = N ∧ 0 ≤ (insOf op N).n ∧ (insOf op N).n < 18446744073709551616 := by
  have hrn : (regsN op = 0 ∧ numB op = false) ∨ (regsN op = 0 ∧ numB op = true) ∨ (regsN op = 1 ∧ numB op = true) ∨ (regsN op = 2 ∧ numB op = false) ∨ (regsN op = 3 ∧ numB op = false) := by
    rcases op17 h0 h1 with rfl | rfl | rfl | rfl | rfl | rfl | rfl | rfl | rfl | rfl | rfl | rfl | rfl | rfl | rfl | rfl | rfl <;> decide
  rcases hrn with ⟨hr, hn⟩ | ⟨hr, hn⟩ | ⟨hr, hn⟩ | ⟨hr, hn⟩ | ⟨hr, hn⟩
  · obtain rfl : N = [] := by simpa [partsN, hr, hn] using hN
    simp [insOf, formedB, numL, num3, partsN, hr, hn, okR, h0, h1]
  · obtain ⟨x, rfl⟩ : ∃ x, N = [x] := List.length_eq_one_iff.1 (by simpa [partsN, hr, hn] using hN)
    have hx := hb x (by simp)
    simp [insOf, formedB, numL, num3, partsN, hr, hn, okR, h0, h1, hx]
  · obtain ⟨x, y, rfl⟩ := len_two (by simpa [partsN, hr, hn] using hN)
    have hx := hb x (by simp)
    have hy := hb y (by simp)
    simp [regOk, hr] at hreg
    simp [insOf, formedB, numL, num3, partsN, hr, hn, okR, h0, h1, hx, hy, hreg]
  · obtain ⟨x, y, rfl⟩ := len_two (by simpa [partsN, hr, hn] using hN)
    have hx := hb x (by simp)
    have hy := hb y (by simp)
    simp [regOk, hr] at hreg
    simp [insOf, formedB, numL, num3, partsN, hr, hn, okR, h0, h1, hx, hy, hreg]
  · obtain ⟨x, y, z, rfl⟩ := len_three (by simpa [partsN, hr, hn] using hN)
    have hx := hb x (by simp)
    have hy := hb y (by simp)
    have hz := hb z (by simp)
    simp [regOk, hr] at hreg
    simp [insOf, formedB, numL, num3, partsN, hr, hn, okR, h0, h1, hx, hy, hz, hreg]

/-- Text of Parse is the line. -/
theorem text_parse {l : List UInt8} {i : I5} (h : parseL l = some i) : formedB i = true ∧ textL i = l ∧ 0 ≤ i.n ∧ i.n < 18446744073709551616 := by
  unfold parseL at h
  split at h
  · cases h
  · rename_i hd ws hp
    split at h
    · cases h
    · rename_i op hop
      split at h
      · rename_i hlen
        split at h
        · cases h
        · rename_i N hN
          split at h
          · rename_i hreg
            have hi := Option.some.inj h
            obtain ⟨h1, h2, h3⟩ := namedN_forth hop
            obtain ⟨e1, e2⟩ := decAll_forth ws N hN
            have hl : N.length = partsN op := by rw [← hlen, e1]; simp
            obtain ⟨f1, f2, f3, f4⟩ := ins_forth (op := (op : Int)) (by omega) (by omega) hl e2 hreg
            rw [hi] at f1 f2 f3 f4
            refine ⟨f1, ?_, f3, f4⟩
            have ho : i.op = op := by rw [← hi]; rfl
            unfold textL
            rw [f2, ho, show ((op : Int)).toNat = op by simp, h3, pcs_join l hd ws hp, e1]
            simp [blanked, List.flatMap_map]
          · cases h
      · cases h

theorem text_len {i : I5} (h : formedB i = true) (hn0 : 0 ≤ i.n) (hn : i.n < 18446744073709551616) : (textL i).length ≤ 73 := by
  obtain ⟨⟨h0, h1⟩, -⟩ := formed_facts h
  have hN : ∀ x ∈ numL i, 0 ≤ x ∧ x < 18446744073709551616 := fun x hx => num3_bound h hn0 hn x (List.mem_of_mem_take hx)
  have hnm : ((nms[i.op.toNat]?).getD []).length ≤ 10 := by
    have : ∀ l ∈ nms, l.length ≤ 10 := by decide
    cases h : nms[i.op.toNat]? with
    | none => simp
    | some l => exact this l (List.mem_of_getElem? h)
  have hb : ∀ N : List Int, (∀ x ∈ N, 0 ≤ x ∧ x < 18446744073709551616) → (blanked N).length ≤ 21 * N.length := by
    intro N
    induction N with
    | nil => simp [blanked]
    | cons n N ih =>
      intro hN
      have h1 := ih (fun x hx => hN x (by simp [hx]))
      have h2 := hN n (by simp)
      have h3 : (Lib.decDigits n.toNat).length ≤ 20 := by rw [Lib.decDigits_length]; exact Lib.nDigits_le20 _ (by omega)
      have e : blanked (n :: N) = 32 :: Lib.decDigits n.toNat ++ blanked N := by simp [blanked]
      rw [e]
      simp only [List.cons_append, List.length_cons, List.length_append]
      omega
  have h4 := hb _ hN
  have h5 : (numL i).length ≤ 3 := by unfold numL; rw [List.length_take, num3_length]; omega
  unfold textL
  rw [List.length_append]
  omega
end Go.Proofs.YtppejcfghlpbjaaGreatDoor


/- The program's way to read a program's text, as functions. No statement of the seat is proved here. -/
namespace Go.Proofs.YtppejcfghlpbjaaGreatDoor
open Go.RowKit Go.Shelf

def lowB (c : UInt8) : Bool := decide (97 ≤ c.toNat ∧ c.toNat ≤ 122)
def digB (c : UInt8) : Bool := decide (48 ≤ c.toNat ∧ c.toNat ≤ 57)
def signB (c : UInt8) : Bool := lowB c || digB c || c == 95
/-- May it be a label? -/
def labB (l : List UInt8) : Bool := decide (1 ≤ l.length ∧ l.length ≤ 64) && ((l.head?).map lowB).getD false && l.all signB && (namedN l).isNone

/-- The instruction of words. -/
def parseW : List (List UInt8) → Option I5
  | [] => none
  | h :: ws => match namedN h with
    | none => none
    | some op => if ws.length = partsN op then match decAll ws with
        | none => none
        | some N => if regOk op N then some (insOf op N) else none
      else none
theorem parseL_eq (l : List UInt8) : parseL l = parseW (pcs l) := by
  unfold parseL parseW
  cases pcs l <;> rfl
def joinB : List (List UInt8) → List UInt8
  | [] => []
  | h :: t => h ++ t.flatMap fun x => 32 :: x
theorem pcs_joinB : ∀ ws : List (List UInt8), ws ≠ [] → (∀ x ∈ ws, (32 : UInt8) ∉ x) → pcs (joinB ws) = ws
  | [x], _, h => by simp [joinB]; exact pcs_word x (h x (by simp))
  | x :: y :: t, _, h => by
    have := pcs_joinB (y :: t) (by simp) (fun z hz => h z (by simp [hz]))
    have e : joinB (x :: y :: t) = x ++ 32 :: joinB (y :: t) := by simp [joinB]
    rw [e, pcs_blank _ _ (h x (by simp)), this]
theorem parse_joinB {ws : List (List UInt8)} (hne : ws ≠ []) (h : ∀ x ∈ ws, (32 : UInt8) ∉ x) : parseL (joinB ws) = parseW ws := by
  rw [parseL_eq, pcs_joinB ws hne h]
theorem parseW_facts {ws : List (List UInt8)} {i : I5} (h : parseW ws = some i) (hb : ∀ x ∈ ws, (32 : UInt8) ∉ x) : formedB i = true ∧ textL i = joinB ws ∧ 0 ≤ i.n ∧ i.n < 18446744073709551616 := by
  have hne : ws ≠ [] := by rintro rfl; simp [parseW] at h
  rw [← parse_joinB hne hb] at h
  exact text_parse h

/-- Which part of an instruction, by its operation's name, is a target. -/
def tpart (h : List UInt8) : Option Nat := match namedN h with
  | none => none
  | some k => if tgtB k then some (regsN k + 1) else none
/-- The words in which 0 stands in the place of a label. -/
def lastW (ws : List (List UInt8)) : List UInt8 := (ws.getLast?).getD []
def usesB (ws : List (List UInt8)) : Bool := decide (tpart ((ws.head?).getD []) = some (ws.length - 1)) && labB (lastW ws)
def zeroed (ws : List (List UInt8)) : List (List UInt8) := if usesB ws then ws.set (ws.length - 1) [48] else ws

/-- What has been read. -/
structure Rd where
  code : List I5
  labs : List (List UInt8 × Nat)
  uses : List (List UInt8 × Nat × Nat)
def standR (r : Rd) (name : List UInt8) : Option Rd := if labB name = true ∧ name ∉ r.labs.map (·.1) then some { r with labs := r.labs ++ [(name, r.code.length)] } else none
def useR (r : Rd) (ws : List (List UInt8)) (n : Nat) : List (List UInt8 × Nat × Nat) := if usesB ws then r.uses ++ [(lastW ws, r.code.length, n)] else r.uses
def insR (r : Rd) (ws : List (List UInt8)) (n : Nat) : Option Rd := (parseW (zeroed ws)).map fun i => { code := r.code ++ [i], labs := r.labs, uses := useR r ws n }
/-- A line's words. -/
def lineR (r : Rd) (n : Nat) : List (List UInt8) → Option Rd
  | [] => some r
  | t :: T => if t.getLast? = some 58 then (standR r t.dropLast).bind fun r' => lineR r' n T else insR r (t :: T) n
/-- What of a line is read: neither its byte 10 nor its remark. -/
def bodyL (l : List UInt8) : List UInt8 := (if l.getLast? = some 10 then l.dropLast else l).takeWhile (fun c => c != 59)
/-- All lines; or the number of the first that is none. -/
def readR (r : Rd) (n : Nat) : List (List UInt8) → Nat × Option Rd
  | [] => (n, some r)
  | l :: ls => match lineR r n (toks (bodyL l)) with
    | none => (n, none)
    | some r' => readR r' (n + 1) ls
def setN (code : List I5) (at_ : Nat) (p : Nat) : List I5 := code.modify at_ fun i => { i with n := p }
/-- Labels put in the place of targets. -/
def resR (labs : List (List UInt8 × Nat)) (code : List I5) : List (List UInt8 × Nat × Nat) → Option Nat × List I5
  | [] => (none, code)
  | (name, at_, line) :: us => match labs.lookup name with
    | none => (some line, code)
    | some p => resR labs (setN code at_ p) us
/-- The program, its labels, how many lines; or the line. -/
def readT (l : List UInt8) : Nat × Option (List I5 × List (List UInt8 × Nat)) := match readR ⟨[], [], []⟩ 0 (linesL l) with
  | (n, none) => (n, none)
  | (n, some r) => match resR r.labs r.code r.uses with
    | (some line, _) => (line, none)
    | (none, code) => (n, some (code, r.labs))
end Go.Proofs.YtppejcfghlpbjaaGreatDoor
