/- Texts of this proof, one behind the other. -/
import Derived.Shelf.Strings.OnBuilder
import Derived.Shelf.Strings.BuilderK
import Derived.Shelf.Strconv.Itoa4
import Derived.Shelf.Strconv.ParseIntPublic10
import Derived.Shelf.Strings.Prefix
import Derived.Shelf.Strings.Replace
import Derived.Shelf.Strings.FieldsFuncAny
import Derived.Shelf.LaysM
import Derived.Shelf.LaysC
import Derived.Shelf.Strings.Search3
import Derived.Test.YtdjpghgnjcmdnaaGreatDoorProg
import Derived.Laws.BitsAllLaws
import Derived.Laws.Entries
import Derived.WalkKit
import Derived.WalkSpells
import Derived.WalkLawsBesides
import Derived.Laws.IdiomCopy
import Derived.Deep.MidRow
import Derived.ArgAppend
import Derived.Deep.AppendLies
import Derived.Laws.IdiomStrings
/- The library at this program, as a session calls it: the tables of numbers. -/
namespace Go.Proofs.YtdjpghgnjcmdnaaGreatDoor
open Go.RowKit Go.Shelf
def dLays169_ren : Go.Shelf.Ren := ⟨fun | 169 => 11 | n => n, fun | 70 => 37 | 9 => 9 | 0 => 0 | 72 => 40 | 37 => 38 | 127 => 66 | 3 => 3 | 5 => 5 | n => n, fun | n => n⟩
theorem dLays169 : Go.Proofs.Lays.n169 Tryz.prog dLays169_ren := {
  mixed := by kernel_rfl
  f169 := Tryz.func11.trans (congrArg some (by kernel_rfl))
  t0 := Tryz.underlying0
  a0 := Tryz.isAgg0
  z0 := Tryz.sizeOf0
  v0 := Tryz.zeroValue0
  t3 := Tryz.underlying3
  a3 := Tryz.isAgg3
  z3 := Tryz.sizeOf3
  v3 := Tryz.zeroValue3
  t9 := Tryz.underlying9
  a9 := Tryz.isAgg9
  z9 := Tryz.sizeOf9
  v9 := Tryz.zeroValue9
  t37 := Tryz.underlying38
  a37 := Tryz.isAgg38
  z37 := Tryz.sizeOf38
  v37 := Tryz.zeroValue38
  t70 := Tryz.underlying37
  a70 := Tryz.isAgg37
  z70 := Tryz.sizeOf37
  v70 := Tryz.zeroValue37
  t72 := Tryz.underlying40
  a72 := Tryz.isAgg40
  z72 := Tryz.sizeOf40
  v72 := Tryz.zeroValue40
  t127 := Tryz.underlying66
  a127 := Tryz.isAgg66
  z127 := Tryz.sizeOf66
  v127 := Tryz.zeroValue66 }
theorem dExtra169 : Builder.Extra Tryz.prog dLays169_ren := {
  sizeBuilder := by kernel_rfl
  liesBuilder := by kernel_rfl
  t5 := Tryz.underlying5
  a5 := Tryz.isAgg5
  z5 := Tryz.sizeOf5
  v5 := Tryz.zeroValue5
  infoByte := by kernel_rfl
  cellsByte := by kernel_rfl
  sizeByte := by kernel_rfl
  neB5 := by decide }

def dLays156_ren : Go.Shelf.Ren := ⟨fun | 156 => 38 | 165 => 73 | 166 => 9 | 169 => 11 | 240 => 33 | 241 => 107 | 276 => 71 | 277 => 142 | n => n, fun | 31 => 61 | 9 => 9 | 3 => 3 | 4 => 4 | 0 => 0 | 20 => 20 | 72 => 40 | 76 => 46 | 70 => 37 | 37 => 38 | 75 => 45 | 127 => 66 | 164 => 116 | 5 => 5 | 80 => 48 | n => n, fun | n => n⟩
theorem dLays156 : Go.Proofs.Lays.n156 Tryz.prog dLays156_ren := {
  mixed := by kernel_rfl
  f156 := Tryz.func38.trans (congrArg some (by kernel_rfl))
  f165 := Tryz.func73.trans (congrArg some (by kernel_rfl))
  f166 := Tryz.func9.trans (congrArg some (by kernel_rfl))
  f169 := Tryz.func11.trans (congrArg some (by kernel_rfl))
  f240 := Tryz.func33.trans (congrArg some (by kernel_rfl))
  f241 := Tryz.func107.trans (congrArg some (by kernel_rfl))
  f276 := Tryz.func71.trans (congrArg some (by kernel_rfl))
  f277 := Tryz.func142.trans (congrArg some (by kernel_rfl))
  t0 := Tryz.underlying0
  a0 := Tryz.isAgg0
  z0 := Tryz.sizeOf0
  v0 := Tryz.zeroValue0
  t3 := Tryz.underlying3
  a3 := Tryz.isAgg3
  z3 := Tryz.sizeOf3
  v3 := Tryz.zeroValue3
  t4 := Tryz.underlying4
  a4 := Tryz.isAgg4
  z4 := Tryz.sizeOf4
  v4 := Tryz.zeroValue4
  t9 := Tryz.underlying9
  a9 := Tryz.isAgg9
  z9 := Tryz.sizeOf9
  v9 := Tryz.zeroValue9
  t20 := Tryz.underlying20
  a20 := Tryz.isAgg20
  z20 := Tryz.sizeOf20
  v20 := Tryz.zeroValue20
  t31 := Tryz.underlying61
  a31 := Tryz.isAgg61
  z31 := Tryz.sizeOf61
  v31 := Tryz.zeroValue61
  t37 := Tryz.underlying38
  a37 := Tryz.isAgg38
  z37 := Tryz.sizeOf38
  v37 := Tryz.zeroValue38
  t70 := Tryz.underlying37
  a70 := Tryz.isAgg37
  z70 := Tryz.sizeOf37
  v70 := Tryz.zeroValue37
  t72 := Tryz.underlying40
  a72 := Tryz.isAgg40
  z72 := Tryz.sizeOf40
  v72 := Tryz.zeroValue40
  t75 := Tryz.underlying45
  a75 := Tryz.isAgg45
  z75 := Tryz.sizeOf45
  v75 := Tryz.zeroValue45
  t76 := Tryz.underlying46
  a76 := Tryz.isAgg46
  z76 := Tryz.sizeOf46
  v76 := Tryz.zeroValue46
  t127 := Tryz.underlying66
  a127 := Tryz.isAgg66
  z127 := Tryz.sizeOf66
  v127 := Tryz.zeroValue66
  t164 := Tryz.underlying116
  a164 := Tryz.isAgg116
  z164 := Tryz.sizeOf116
  v164 := Tryz.zeroValue116 }
theorem dExtra156 : Builder.Extra Tryz.prog dLays156_ren := {
  sizeBuilder := by kernel_rfl
  liesBuilder := by kernel_rfl
  t5 := Tryz.underlying5
  a5 := Tryz.isAgg5
  z5 := Tryz.sizeOf5
  v5 := Tryz.zeroValue5
  infoByte := by kernel_rfl
  cellsByte := by kernel_rfl
  sizeByte := by kernel_rfl
  neB5 := by decide }

def dLaysM171_ren : Go.Shelf.Ren := ⟨fun | 171 => 13 | 243 => 39 | 246 => 74 | 283 => 108 | 284 => 109 | 285 => 110 | 286 => 111 | 129 => 144 | 317 => 143 | 318 => 145 | 319 => 146 | 320 => 147 | 337 => 195 | 338 => 196 | n => n, fun | 3 => 3 | 9 => 9 | 2 => 2 | 4 => 4 | 171 => 162 | 0 => 0 | 53 => 114 | 37 => 38 | 5 => 5 | 173 => 165 | 212 => 203 | 51 => 149 | 20 => 20 | 213 => 204 | 46 => 139 | 232 => 297 | 233 => 147 | n => n, fun | 17 => 1 | 18 => 9 | 19 => 10 | n => n⟩
theorem dLaysM171 : Go.Proofs.LaysM.n171 Tryz.prog dLaysM171_ren := {
  mixed := by kernel_rfl
  f129 := Tryz.func144.trans (congrArg some (by kernel_rfl))
  f171 := Tryz.func13.trans (congrArg some (by kernel_rfl))
  f243 := Tryz.func39.trans (congrArg some (by kernel_rfl))
  f246 := Tryz.func74.trans (congrArg some (by kernel_rfl))
  f283 := Tryz.func108.trans (congrArg some (by kernel_rfl))
  f284 := Tryz.func109.trans (congrArg some (by kernel_rfl))
  f285 := Tryz.func110.trans (congrArg some (by kernel_rfl))
  f286 := Tryz.func111.trans (congrArg some (by kernel_rfl))
  f317 := Tryz.func143.trans (congrArg some (by kernel_rfl))
  f318 := Tryz.func145.trans (congrArg some (by kernel_rfl))
  f319 := Tryz.func146.trans (congrArg some (by kernel_rfl))
  f320 := Tryz.func147.trans (congrArg some (by kernel_rfl))
  f337 := Tryz.func195.trans (congrArg some (by kernel_rfl))
  f338 := Tryz.func196.trans (congrArg some (by kernel_rfl))
  t0 := Tryz.underlying0
  a0 := Tryz.isAgg0
  z0 := Tryz.sizeOf0
  v0 := Tryz.zeroValue0
  t2 := Tryz.underlying2
  a2 := Tryz.isAgg2
  z2 := Tryz.sizeOf2
  v2 := Tryz.zeroValue2
  t3 := Tryz.underlying3
  a3 := Tryz.isAgg3
  z3 := Tryz.sizeOf3
  v3 := Tryz.zeroValue3
  t4 := Tryz.underlying4
  a4 := Tryz.isAgg4
  z4 := Tryz.sizeOf4
  v4 := Tryz.zeroValue4
  t5 := Tryz.underlying5
  a5 := Tryz.isAgg5
  z5 := Tryz.sizeOf5
  v5 := Tryz.zeroValue5
  t9 := Tryz.underlying9
  a9 := Tryz.isAgg9
  z9 := Tryz.sizeOf9
  v9 := Tryz.zeroValue9
  t20 := Tryz.underlying20
  a20 := Tryz.isAgg20
  z20 := Tryz.sizeOf20
  v20 := Tryz.zeroValue20
  t37 := Tryz.underlying38
  a37 := Tryz.isAgg38
  z37 := Tryz.sizeOf38
  v37 := Tryz.zeroValue38
  t46 := Tryz.underlying139
  a46 := Tryz.isAgg139
  z46 := Tryz.sizeOf139
  v46 := Tryz.zeroValue139
  t51 := Tryz.underlying149
  a51 := Tryz.isAgg149
  z51 := Tryz.sizeOf149
  v51 := Tryz.zeroValue149
  t53 := Tryz.underlying114
  a53 := Tryz.isAgg114
  z53 := Tryz.sizeOf114
  v53 := Tryz.zeroValue114
  t171 := Tryz.underlying162
  a171 := Tryz.isAgg162
  z171 := Tryz.sizeOf162
  v171 := Tryz.zeroValue162
  t173 := Tryz.underlying165
  a173 := Tryz.isAgg165
  z173 := Tryz.sizeOf165
  v173 := Tryz.zeroValue165
  t212 := Tryz.underlying203
  a212 := Tryz.isAgg203
  z212 := Tryz.sizeOf203
  v212 := Tryz.zeroValue203
  t213 := Tryz.underlying204
  a213 := Tryz.isAgg204
  z213 := Tryz.sizeOf204
  t232 := Tryz.underlying297
  a232 := Tryz.isAgg297
  z232 := Tryz.sizeOf297
  v232 := Tryz.zeroValue297
  t233 := Tryz.underlying147
  a233 := Tryz.isAgg147
  z233 := Tryz.sizeOf147
  v233 := Tryz.zeroValue147
  g17 := by kernel_rfl
  g18 := by kernel_rfl
  g19 := by kernel_rfl
  i0 := by kernel_rfl
  i2 := by kernel_rfl
  i3 := by kernel_rfl
  i4 := by kernel_rfl
  i5 := by kernel_rfl
  i9 := by kernel_rfl
  i20 := by kernel_rfl
  i37 := by kernel_rfl
  i46 := by kernel_rfl
  i51 := by kernel_rfl
  i53 := by kernel_rfl
  i171 := by kernel_rfl
  i173 := by kernel_rfl
  i212 := by kernel_rfl
  i232 := by kernel_rfl
  i233 := by kernel_rfl
  m17 := by kernel_rfl
  m18 := by kernel_rfl
  m19 := by kernel_rfl }
def dLaysM173_ren : Go.Shelf.Ren := ⟨fun | 173 => 106 | 246 => 74 | 283 => 108 | 284 => 109 | 285 => 110 | 286 => 111 | 129 => 144 | 317 => 143 | 318 => 145 | 319 => 146 | 320 => 147 | 337 => 195 | 338 => 196 | n => n, fun | 2 => 2 | 3 => 3 | 9 => 9 | 4 => 4 | 171 => 162 | 0 => 0 | 53 => 114 | 37 => 38 | 5 => 5 | 173 => 165 | 212 => 203 | 51 => 149 | 20 => 20 | 213 => 204 | 46 => 139 | 232 => 297 | 233 => 147 | n => n, fun | 17 => 1 | 18 => 9 | 19 => 10 | n => n⟩
theorem dLaysM173 : Go.Proofs.LaysM.n173 Tryz.prog dLaysM173_ren := {
  mixed := by kernel_rfl
  f129 := Tryz.func144.trans (congrArg some (by kernel_rfl))
  f173 := Tryz.func106.trans (congrArg some (by kernel_rfl))
  f246 := Tryz.func74.trans (congrArg some (by kernel_rfl))
  f283 := Tryz.func108.trans (congrArg some (by kernel_rfl))
  f284 := Tryz.func109.trans (congrArg some (by kernel_rfl))
  f285 := Tryz.func110.trans (congrArg some (by kernel_rfl))
  f286 := Tryz.func111.trans (congrArg some (by kernel_rfl))
  f317 := Tryz.func143.trans (congrArg some (by kernel_rfl))
  f318 := Tryz.func145.trans (congrArg some (by kernel_rfl))
  f319 := Tryz.func146.trans (congrArg some (by kernel_rfl))
  f320 := Tryz.func147.trans (congrArg some (by kernel_rfl))
  f337 := Tryz.func195.trans (congrArg some (by kernel_rfl))
  f338 := Tryz.func196.trans (congrArg some (by kernel_rfl))
  t0 := Tryz.underlying0
  a0 := Tryz.isAgg0
  z0 := Tryz.sizeOf0
  v0 := Tryz.zeroValue0
  t2 := Tryz.underlying2
  a2 := Tryz.isAgg2
  z2 := Tryz.sizeOf2
  v2 := Tryz.zeroValue2
  t3 := Tryz.underlying3
  a3 := Tryz.isAgg3
  z3 := Tryz.sizeOf3
  v3 := Tryz.zeroValue3
  t4 := Tryz.underlying4
  a4 := Tryz.isAgg4
  z4 := Tryz.sizeOf4
  v4 := Tryz.zeroValue4
  t5 := Tryz.underlying5
  a5 := Tryz.isAgg5
  z5 := Tryz.sizeOf5
  v5 := Tryz.zeroValue5
  t9 := Tryz.underlying9
  a9 := Tryz.isAgg9
  z9 := Tryz.sizeOf9
  v9 := Tryz.zeroValue9
  t20 := Tryz.underlying20
  a20 := Tryz.isAgg20
  z20 := Tryz.sizeOf20
  v20 := Tryz.zeroValue20
  t37 := Tryz.underlying38
  a37 := Tryz.isAgg38
  z37 := Tryz.sizeOf38
  v37 := Tryz.zeroValue38
  t46 := Tryz.underlying139
  a46 := Tryz.isAgg139
  z46 := Tryz.sizeOf139
  v46 := Tryz.zeroValue139
  t51 := Tryz.underlying149
  a51 := Tryz.isAgg149
  z51 := Tryz.sizeOf149
  v51 := Tryz.zeroValue149
  t53 := Tryz.underlying114
  a53 := Tryz.isAgg114
  z53 := Tryz.sizeOf114
  v53 := Tryz.zeroValue114
  t171 := Tryz.underlying162
  a171 := Tryz.isAgg162
  z171 := Tryz.sizeOf162
  v171 := Tryz.zeroValue162
  t173 := Tryz.underlying165
  a173 := Tryz.isAgg165
  z173 := Tryz.sizeOf165
  v173 := Tryz.zeroValue165
  t212 := Tryz.underlying203
  a212 := Tryz.isAgg203
  z212 := Tryz.sizeOf203
  v212 := Tryz.zeroValue203
  t213 := Tryz.underlying204
  a213 := Tryz.isAgg204
  z213 := Tryz.sizeOf204
  t232 := Tryz.underlying297
  a232 := Tryz.isAgg297
  z232 := Tryz.sizeOf297
  v232 := Tryz.zeroValue297
  t233 := Tryz.underlying147
  a233 := Tryz.isAgg147
  z233 := Tryz.sizeOf147
  v233 := Tryz.zeroValue147
  g17 := by kernel_rfl
  g18 := by kernel_rfl
  g19 := by kernel_rfl
  i0 := by kernel_rfl
  i2 := by kernel_rfl
  i3 := by kernel_rfl
  i4 := by kernel_rfl
  i5 := by kernel_rfl
  i9 := by kernel_rfl
  i20 := by kernel_rfl
  i37 := by kernel_rfl
  i46 := by kernel_rfl
  i51 := by kernel_rfl
  i53 := by kernel_rfl
  i171 := by kernel_rfl
  i173 := by kernel_rfl
  i212 := by kernel_rfl
  i232 := by kernel_rfl
  i233 := by kernel_rfl
  m17 := by kernel_rfl
  m18 := by kernel_rfl
  m19 := by kernel_rfl }
def dLaysC174_ren : Go.Shelf.Ren := ⟨fun | 174 => 105 | 247 => 140 | 245 => 141 | 287 => 190 | 279 => 191 | 280 => 192 | 281 => 193 | 282 => 194 | 321 => 224 | 322 => 225 | 316 => 226 | 171 => 13 | 205 => 227 | 243 => 39 | 246 => 74 | 283 => 108 | 284 => 109 | 285 => 110 | 286 => 111 | 129 => 144 | 317 => 143 | 318 => 145 | 319 => 146 | 320 => 147 | 337 => 195 | 338 => 196 | n => n, fun | 9 => 9 | 3 => 3 | 2 => 2 | 75 => 45 | 85 => 160 | 4 => 4 | 167 => 253 | 5 => 5 | 53 => 114 | 175 => 254 | 46 => 139 | 168 => 256 | 37 => 38 | 0 => 0 | 210 => 296 | 21 => 21 | 127 => 66 | 145 => 310 | 143 => 308 | 171 => 162 | 173 => 165 | 212 => 203 | 51 => 149 | 20 => 20 | 213 => 204 | 232 => 297 | 233 => 147 | 80 => 48 | n => n, fun | 15 => 7 | 16 => 8 | 17 => 1 | 18 => 9 | 19 => 10 | n => n⟩
theorem dLaysC174 : Go.Proofs.LaysC.n174 Tryz.prog dLaysC174_ren := {
  mixed := by kernel_rfl
  f129 := Tryz.func144.trans (congrArg some (by kernel_rfl))
  f171 := Tryz.func13.trans (congrArg some (by kernel_rfl))
  f174 := Tryz.func105.trans (congrArg some (by kernel_rfl))
  f205 := Tryz.func227.trans (congrArg some (by kernel_rfl))
  f243 := Tryz.func39.trans (congrArg some (by kernel_rfl))
  f245 := Tryz.func141.trans (congrArg some (by kernel_rfl))
  f246 := Tryz.func74.trans (congrArg some (by kernel_rfl))
  f247 := Tryz.func140.trans (congrArg some (by kernel_rfl))
  f279 := Tryz.func191.trans (congrArg some (by kernel_rfl))
  f280 := Tryz.func192.trans (congrArg some (by kernel_rfl))
  f281 := Tryz.func193.trans (congrArg some (by kernel_rfl))
  f282 := Tryz.func194.trans (congrArg some (by kernel_rfl))
  f283 := Tryz.func108.trans (congrArg some (by kernel_rfl))
  f284 := Tryz.func109.trans (congrArg some (by kernel_rfl))
  f285 := Tryz.func110.trans (congrArg some (by kernel_rfl))
  f286 := Tryz.func111.trans (congrArg some (by kernel_rfl))
  f287 := Tryz.func190.trans (congrArg some (by kernel_rfl))
  f316 := Tryz.func226.trans (congrArg some (by kernel_rfl))
  f317 := Tryz.func143.trans (congrArg some (by kernel_rfl))
  f318 := Tryz.func145.trans (congrArg some (by kernel_rfl))
  f319 := Tryz.func146.trans (congrArg some (by kernel_rfl))
  f320 := Tryz.func147.trans (congrArg some (by kernel_rfl))
  f321 := Tryz.func224.trans (congrArg some (by kernel_rfl))
  f322 := Tryz.func225.trans (congrArg some (by kernel_rfl))
  f337 := Tryz.func195.trans (congrArg some (by kernel_rfl))
  f338 := Tryz.func196.trans (congrArg some (by kernel_rfl))
  t0 := Tryz.underlying0
  a0 := Tryz.isAgg0
  z0 := Tryz.sizeOf0
  v0 := Tryz.zeroValue0
  t2 := Tryz.underlying2
  a2 := Tryz.isAgg2
  z2 := Tryz.sizeOf2
  v2 := Tryz.zeroValue2
  t3 := Tryz.underlying3
  a3 := Tryz.isAgg3
  z3 := Tryz.sizeOf3
  v3 := Tryz.zeroValue3
  t4 := Tryz.underlying4
  a4 := Tryz.isAgg4
  z4 := Tryz.sizeOf4
  v4 := Tryz.zeroValue4
  t5 := Tryz.underlying5
  a5 := Tryz.isAgg5
  z5 := Tryz.sizeOf5
  v5 := Tryz.zeroValue5
  t9 := Tryz.underlying9
  a9 := Tryz.isAgg9
  z9 := Tryz.sizeOf9
  v9 := Tryz.zeroValue9
  t20 := Tryz.underlying20
  a20 := Tryz.isAgg20
  z20 := Tryz.sizeOf20
  v20 := Tryz.zeroValue20
  t21 := Tryz.underlying21
  a21 := Tryz.isAgg21
  z21 := Tryz.sizeOf21
  v21 := Tryz.zeroValue21
  t37 := Tryz.underlying38
  a37 := Tryz.isAgg38
  z37 := Tryz.sizeOf38
  v37 := Tryz.zeroValue38
  t46 := Tryz.underlying139
  a46 := Tryz.isAgg139
  z46 := Tryz.sizeOf139
  v46 := Tryz.zeroValue139
  t51 := Tryz.underlying149
  a51 := Tryz.isAgg149
  z51 := Tryz.sizeOf149
  v51 := Tryz.zeroValue149
  t53 := Tryz.underlying114
  a53 := Tryz.isAgg114
  z53 := Tryz.sizeOf114
  v53 := Tryz.zeroValue114
  t75 := Tryz.underlying45
  a75 := Tryz.isAgg45
  z75 := Tryz.sizeOf45
  v75 := Tryz.zeroValue45
  t85 := Tryz.underlying160
  a85 := Tryz.isAgg160
  z85 := Tryz.sizeOf160
  v85 := Tryz.zeroValue160
  t127 := Tryz.underlying66
  a127 := Tryz.isAgg66
  z127 := Tryz.sizeOf66
  v127 := Tryz.zeroValue66
  t143 := Tryz.underlying308
  a143 := Tryz.isAgg308
  z143 := Tryz.sizeOf308
  v143 := Tryz.zeroValue308
  t145 := Tryz.underlying310
  a145 := Tryz.isAgg310
  z145 := Tryz.sizeOf310
  v145 := Tryz.zeroValue310
  t167 := Tryz.underlying253
  a167 := Tryz.isAgg253
  z167 := Tryz.sizeOf253
  v167 := Tryz.zeroValue253
  t168 := Tryz.underlying256
  a168 := Tryz.isAgg256
  z168 := Tryz.sizeOf256
  v168 := Tryz.zeroValue256
  t171 := Tryz.underlying162
  a171 := Tryz.isAgg162
  z171 := Tryz.sizeOf162
  v171 := Tryz.zeroValue162
  t173 := Tryz.underlying165
  a173 := Tryz.isAgg165
  z173 := Tryz.sizeOf165
  v173 := Tryz.zeroValue165
  t175 := Tryz.underlying254
  a175 := Tryz.isAgg254
  z175 := Tryz.sizeOf254
  v175 := Tryz.zeroValue254
  t210 := Tryz.underlying296
  a210 := Tryz.isAgg296
  z210 := Tryz.sizeOf296
  v210 := Tryz.zeroValue296
  t212 := Tryz.underlying203
  a212 := Tryz.isAgg203
  z212 := Tryz.sizeOf203
  v212 := Tryz.zeroValue203
  t213 := Tryz.underlying204
  a213 := Tryz.isAgg204
  z213 := Tryz.sizeOf204
  t232 := Tryz.underlying297
  a232 := Tryz.isAgg297
  z232 := Tryz.sizeOf297
  v232 := Tryz.zeroValue297
  t233 := Tryz.underlying147
  a233 := Tryz.isAgg147
  z233 := Tryz.sizeOf147
  v233 := Tryz.zeroValue147
  g15 := by kernel_rfl
  g16 := by kernel_rfl
  g17 := by kernel_rfl
  g18 := by kernel_rfl
  g19 := by kernel_rfl
  t80 := Tryz.underlying48
  a80 := Tryz.isAgg48
  z80 := Tryz.sizeOf48
  v80 := Tryz.zeroValue48
  i0 := by kernel_rfl
  i2 := by kernel_rfl
  i3 := by kernel_rfl
  i4 := by kernel_rfl
  i5 := by kernel_rfl
  i9 := by kernel_rfl
  i20 := by kernel_rfl
  i21 := by kernel_rfl
  i37 := by kernel_rfl
  i46 := by kernel_rfl
  i51 := by kernel_rfl
  i53 := by kernel_rfl
  i75 := by kernel_rfl
  i80 := by kernel_rfl
  i85 := by kernel_rfl
  i127 := by kernel_rfl
  i143 := by kernel_rfl
  i145 := by kernel_rfl
  i167 := by kernel_rfl
  i168 := by kernel_rfl
  i171 := by kernel_rfl
  i173 := by kernel_rfl
  i175 := by kernel_rfl
  i210 := by kernel_rfl
  i212 := by kernel_rfl
  i232 := by kernel_rfl
  i233 := by kernel_rfl
  m15 := by kernel_rfl
  m16 := by kernel_rfl
  m17 := by kernel_rfl
  m18 := by kernel_rfl
  m19 := by kernel_rfl
  c0 := by kernel_rfl
  c2 := by kernel_rfl
  c3 := by kernel_rfl
  c4 := by kernel_rfl
  c5 := by kernel_rfl
  c9 := by kernel_rfl
  c20 := by kernel_rfl
  c21 := by kernel_rfl
  c37 := by kernel_rfl
  c46 := by kernel_rfl
  c51 := by kernel_rfl
  c53 := by kernel_rfl
  c75 := by kernel_rfl
  c80 := by kernel_rfl
  c85 := by kernel_rfl
  c127 := by kernel_rfl
  c143 := by kernel_rfl
  c145 := by kernel_rfl
  c167 := by kernel_rfl
  c168 := by kernel_rfl
  c171 := by kernel_rfl
  c173 := by kernel_rfl
  c175 := by kernel_rfl
  c210 := by kernel_rfl
  c212 := by kernel_rfl
  c213 := by kernel_rfl
  c232 := by kernel_rfl
  c233 := by kernel_rfl }
def dLays143_ren : Go.Shelf.Ren := ⟨fun | 143 => 103 | 219 => 139 | 217 => 186 | 225 => 187 | 224 => 188 | 267 => 189 | 266 => 222 | 314 => 223 | n => n, fun | 9 => 9 | 3 => 3 | 4 => 4 | 5 => 5 | 46 => 139 | 146 => 292 | 51 => 149 | n => n, fun | 1 => 6 | n => n⟩
theorem dLays143 : Go.Proofs.Lays.n143 Tryz.prog dLays143_ren := {
  mixed := by kernel_rfl
  f143 := Tryz.func103.trans (congrArg some (by kernel_rfl))
  f217 := Tryz.func186.trans (congrArg some (by kernel_rfl))
  f219 := Tryz.func139.trans (congrArg some (by kernel_rfl))
  f224 := Tryz.func188.trans (congrArg some (by kernel_rfl))
  f225 := Tryz.func187.trans (congrArg some (by kernel_rfl))
  f266 := Tryz.func222.trans (congrArg some (by kernel_rfl))
  f267 := Tryz.func189.trans (congrArg some (by kernel_rfl))
  f314 := Tryz.func223.trans (congrArg some (by kernel_rfl))
  t3 := Tryz.underlying3
  a3 := Tryz.isAgg3
  z3 := Tryz.sizeOf3
  v3 := Tryz.zeroValue3
  t4 := Tryz.underlying4
  a4 := Tryz.isAgg4
  z4 := Tryz.sizeOf4
  v4 := Tryz.zeroValue4
  t5 := Tryz.underlying5
  a5 := Tryz.isAgg5
  z5 := Tryz.sizeOf5
  v5 := Tryz.zeroValue5
  t9 := Tryz.underlying9
  a9 := Tryz.isAgg9
  z9 := Tryz.sizeOf9
  v9 := Tryz.zeroValue9
  t46 := Tryz.underlying139
  a46 := Tryz.isAgg139
  z46 := Tryz.sizeOf139
  v46 := Tryz.zeroValue139
  t51 := Tryz.underlying149
  a51 := Tryz.isAgg149
  z51 := Tryz.sizeOf149
  v51 := Tryz.zeroValue149
  t146 := Tryz.underlying292
  a146 := Tryz.isAgg292
  z146 := Tryz.sizeOf292
  v146 := Tryz.zeroValue292
  g1 := by kernel_rfl }
def dLaysM143_ren : Go.Shelf.Ren := ⟨fun | 143 => 103 | 219 => 139 | 217 => 186 | 225 => 187 | 224 => 188 | 267 => 189 | 266 => 222 | 314 => 223 | n => n, fun | 9 => 9 | 3 => 3 | 4 => 4 | 5 => 5 | 46 => 139 | 146 => 292 | 51 => 149 | n => n, fun | 1 => 6 | n => n⟩
theorem dLaysM143 : Go.Proofs.LaysM.n143 Tryz.prog dLaysM143_ren := {
  mixed := by kernel_rfl
  f143 := Tryz.func103.trans (congrArg some (by kernel_rfl))
  f217 := Tryz.func186.trans (congrArg some (by kernel_rfl))
  f219 := Tryz.func139.trans (congrArg some (by kernel_rfl))
  f224 := Tryz.func188.trans (congrArg some (by kernel_rfl))
  f225 := Tryz.func187.trans (congrArg some (by kernel_rfl))
  f266 := Tryz.func222.trans (congrArg some (by kernel_rfl))
  f267 := Tryz.func189.trans (congrArg some (by kernel_rfl))
  f314 := Tryz.func223.trans (congrArg some (by kernel_rfl))
  t3 := Tryz.underlying3
  a3 := Tryz.isAgg3
  z3 := Tryz.sizeOf3
  v3 := Tryz.zeroValue3
  t4 := Tryz.underlying4
  a4 := Tryz.isAgg4
  z4 := Tryz.sizeOf4
  v4 := Tryz.zeroValue4
  t5 := Tryz.underlying5
  a5 := Tryz.isAgg5
  z5 := Tryz.sizeOf5
  v5 := Tryz.zeroValue5
  t9 := Tryz.underlying9
  a9 := Tryz.isAgg9
  z9 := Tryz.sizeOf9
  v9 := Tryz.zeroValue9
  t46 := Tryz.underlying139
  a46 := Tryz.isAgg139
  z46 := Tryz.sizeOf139
  v46 := Tryz.zeroValue139
  t51 := Tryz.underlying149
  a51 := Tryz.isAgg149
  z51 := Tryz.sizeOf149
  v51 := Tryz.zeroValue149
  t146 := Tryz.underlying292
  a146 := Tryz.isAgg292
  z146 := Tryz.sizeOf292
  v146 := Tryz.zeroValue292
  g1 := by kernel_rfl
  i3 := by kernel_rfl
  i4 := by kernel_rfl
  i5 := by kernel_rfl
  i9 := by kernel_rfl
  i46 := by kernel_rfl
  i51 := by kernel_rfl
  i146 := by kernel_rfl
  m1 := by kernel_rfl
  s1_3 := fun w h => Go.Proofs.cell_of_shapedOpen_int (zero := #[.int .i64 0]) (t := 3) h (of_decide_eq_true (by kernel_rfl)) (by kernel_rfl) rfl (by kernel_rfl) (by kernel_rfl) Tryz.underlying3 }
def dLays102_ren : Go.Shelf.Ren := ⟨fun | 102 => 32 | 209 => 70 | 207 => 104 | n => n, fun | 9 => 9 | 4 => 4 | 3 => 3 | n => n, fun | n => n⟩
theorem dLays102 : Go.Proofs.Lays.n102 Tryz.prog dLays102_ren := {
  mixed := by kernel_rfl
  f102 := Tryz.func32.trans (congrArg some (by kernel_rfl))
  f207 := Tryz.func104.trans (congrArg some (by kernel_rfl))
  f209 := Tryz.func70.trans (congrArg some (by kernel_rfl))
  t3 := Tryz.underlying3
  a3 := Tryz.isAgg3
  z3 := Tryz.sizeOf3
  v3 := Tryz.zeroValue3
  t4 := Tryz.underlying4
  a4 := Tryz.isAgg4
  z4 := Tryz.sizeOf4
  v4 := Tryz.zeroValue4
  t9 := Tryz.underlying9
  a9 := Tryz.isAgg9
  z9 := Tryz.sizeOf9
  v9 := Tryz.zeroValue9 }
def dLays155_ren : Go.Shelf.Ren := ⟨fun | 155 => 80 | 154 => 122 | 138 => 158 | 165 => 73 | 143 => 103 | 166 => 9 | 197 => 102 | 169 => 11 | 195 => 205 | 218 => 206 | 240 => 33 | 241 => 107 | 219 => 139 | 260 => 138 | 276 => 71 | 277 => 142 | 217 => 186 | 225 => 187 | 224 => 188 | 267 => 189 | 266 => 222 | 314 => 223 | n => n, fun | 9 => 9 | 3 => 3 | 4 => 4 | 72 => 40 | 0 => 0 | 76 => 46 | 105 => 157 | 21 => 21 | 5 => 5 | 70 => 37 | 20 => 20 | 37 => 38 | 75 => 45 | 127 => 66 | 164 => 116 | 46 => 139 | 119 => 248 | 139 => 251 | 138 => 250 | 146 => 292 | 51 => 149 | 80 => 48 | n => n, fun | 1 => 6 | 3 => 4 | 4 => 5 | n => n⟩
theorem dLays155 : Go.Proofs.Lays.n155 Tryz.prog dLays155_ren := {
  mixed := by kernel_rfl
  f138 := Tryz.func158.trans (congrArg some (by kernel_rfl))
  f143 := Tryz.func103.trans (congrArg some (by kernel_rfl))
  f154 := Tryz.func122.trans (congrArg some (by kernel_rfl))
  f155 := Tryz.func80.trans (congrArg some (by kernel_rfl))
  f165 := Tryz.func73.trans (congrArg some (by kernel_rfl))
  f166 := Tryz.func9.trans (congrArg some (by kernel_rfl))
  f169 := Tryz.func11.trans (congrArg some (by kernel_rfl))
  f195 := Tryz.func205.trans (congrArg some (by kernel_rfl))
  f197 := Tryz.func102.trans (congrArg some (by kernel_rfl))
  f217 := Tryz.func186.trans (congrArg some (by kernel_rfl))
  f218 := Tryz.func206.trans (congrArg some (by kernel_rfl))
  f219 := Tryz.func139.trans (congrArg some (by kernel_rfl))
  f224 := Tryz.func188.trans (congrArg some (by kernel_rfl))
  f225 := Tryz.func187.trans (congrArg some (by kernel_rfl))
  f240 := Tryz.func33.trans (congrArg some (by kernel_rfl))
  f241 := Tryz.func107.trans (congrArg some (by kernel_rfl))
  f260 := Tryz.func138.trans (congrArg some (by kernel_rfl))
  f266 := Tryz.func222.trans (congrArg some (by kernel_rfl))
  f267 := Tryz.func189.trans (congrArg some (by kernel_rfl))
  f276 := Tryz.func71.trans (congrArg some (by kernel_rfl))
  f277 := Tryz.func142.trans (congrArg some (by kernel_rfl))
  f314 := Tryz.func223.trans (congrArg some (by kernel_rfl))
  t0 := Tryz.underlying0
  a0 := Tryz.isAgg0
  z0 := Tryz.sizeOf0
  v0 := Tryz.zeroValue0
  t3 := Tryz.underlying3
  a3 := Tryz.isAgg3
  z3 := Tryz.sizeOf3
  v3 := Tryz.zeroValue3
  t4 := Tryz.underlying4
  a4 := Tryz.isAgg4
  z4 := Tryz.sizeOf4
  v4 := Tryz.zeroValue4
  t5 := Tryz.underlying5
  a5 := Tryz.isAgg5
  z5 := Tryz.sizeOf5
  v5 := Tryz.zeroValue5
  t9 := Tryz.underlying9
  a9 := Tryz.isAgg9
  z9 := Tryz.sizeOf9
  v9 := Tryz.zeroValue9
  t20 := Tryz.underlying20
  a20 := Tryz.isAgg20
  z20 := Tryz.sizeOf20
  v20 := Tryz.zeroValue20
  t21 := Tryz.underlying21
  a21 := Tryz.isAgg21
  z21 := Tryz.sizeOf21
  v21 := Tryz.zeroValue21
  t37 := Tryz.underlying38
  a37 := Tryz.isAgg38
  z37 := Tryz.sizeOf38
  v37 := Tryz.zeroValue38
  t46 := Tryz.underlying139
  a46 := Tryz.isAgg139
  z46 := Tryz.sizeOf139
  v46 := Tryz.zeroValue139
  t51 := Tryz.underlying149
  a51 := Tryz.isAgg149
  z51 := Tryz.sizeOf149
  v51 := Tryz.zeroValue149
  t70 := Tryz.underlying37
  a70 := Tryz.isAgg37
  z70 := Tryz.sizeOf37
  v70 := Tryz.zeroValue37
  t72 := Tryz.underlying40
  a72 := Tryz.isAgg40
  z72 := Tryz.sizeOf40
  v72 := Tryz.zeroValue40
  t75 := Tryz.underlying45
  a75 := Tryz.isAgg45
  z75 := Tryz.sizeOf45
  v75 := Tryz.zeroValue45
  t76 := Tryz.underlying46
  a76 := Tryz.isAgg46
  z76 := Tryz.sizeOf46
  v76 := Tryz.zeroValue46
  t105 := Tryz.underlying157
  a105 := Tryz.isAgg157
  z105 := Tryz.sizeOf157
  v105 := Tryz.zeroValue157
  t119 := Tryz.underlying248
  a119 := Tryz.isAgg248
  z119 := Tryz.sizeOf248
  t127 := Tryz.underlying66
  a127 := Tryz.isAgg66
  z127 := Tryz.sizeOf66
  v127 := Tryz.zeroValue66
  t138 := Tryz.underlying250
  a138 := Tryz.isAgg250
  z138 := Tryz.sizeOf250
  v138 := Tryz.zeroValue250
  t139 := Tryz.underlying251
  a139 := Tryz.isAgg251
  z139 := Tryz.sizeOf251
  v139 := Tryz.zeroValue251
  t146 := Tryz.underlying292
  a146 := Tryz.isAgg292
  z146 := Tryz.sizeOf292
  v146 := Tryz.zeroValue292
  t164 := Tryz.underlying116
  a164 := Tryz.isAgg116
  z164 := Tryz.sizeOf116
  v164 := Tryz.zeroValue116
  g1 := by kernel_rfl
  g3 := by kernel_rfl
  g4 := by kernel_rfl }
theorem dExtra155 : Builder.Extra Tryz.prog dLays155_ren := {
  sizeBuilder := by kernel_rfl
  liesBuilder := by kernel_rfl
  t5 := Tryz.underlying5
  a5 := Tryz.isAgg5
  z5 := Tryz.sizeOf5
  v5 := Tryz.zeroValue5
  infoByte := by kernel_rfl
  cellsByte := by kernel_rfl
  sizeByte := by kernel_rfl
  neB5 := by decide }

def dLays229_ren : Go.Shelf.Ren := ⟨fun | 229 => 35 | n => n, fun | 9 => 9 | 40 => 63 | 31 => 61 | 152 => 118 | 3 => 3 | 0 => 0 | 4 => 4 | 21 => 21 | 154 => 120 | n => n, fun | n => n⟩
theorem dLays229 : Go.Proofs.Lays.n229 Tryz.prog dLays229_ren := {
  mixed := by kernel_rfl
  f229 := Tryz.func35.trans (congrArg some (by kernel_rfl))
  t0 := Tryz.underlying0
  a0 := Tryz.isAgg0
  z0 := Tryz.sizeOf0
  v0 := Tryz.zeroValue0
  t3 := Tryz.underlying3
  a3 := Tryz.isAgg3
  z3 := Tryz.sizeOf3
  v3 := Tryz.zeroValue3
  t4 := Tryz.underlying4
  a4 := Tryz.isAgg4
  z4 := Tryz.sizeOf4
  v4 := Tryz.zeroValue4
  t9 := Tryz.underlying9
  a9 := Tryz.isAgg9
  z9 := Tryz.sizeOf9
  v9 := Tryz.zeroValue9
  t21 := Tryz.underlying21
  a21 := Tryz.isAgg21
  z21 := Tryz.sizeOf21
  v21 := Tryz.zeroValue21
  t31 := Tryz.underlying61
  a31 := Tryz.isAgg61
  z31 := Tryz.sizeOf61
  v31 := Tryz.zeroValue61
  t40 := Tryz.underlying63
  a40 := Tryz.isAgg63
  z40 := Tryz.sizeOf63
  v40 := Tryz.zeroValue63
  t152 := Tryz.underlying118
  a152 := Tryz.isAgg118
  z152 := Tryz.sizeOf118
  v152 := Tryz.zeroValue118
  t154 := Tryz.underlying120
  a154 := Tryz.isAgg120
  z154 := Tryz.sizeOf120
  v154 := Tryz.zeroValue120 }
/-- What WriteString asks, out of what Join asks. -/
theorem dLays166 : Go.Proofs.Lays.n166 Tryz.prog dLays156_ren := {
  mixed := dLays156.mixed
  f166 := dLays156.f166
  f240 := dLays156.f240
  f276 := dLays156.f276
  t0 := dLays156.t0
  a0 := dLays156.a0
  z0 := dLays156.z0
  v0 := dLays156.v0
  t3 := dLays156.t3
  a3 := dLays156.a3
  z3 := dLays156.z3
  v3 := dLays156.v3
  t4 := dLays156.t4
  a4 := dLays156.a4
  z4 := dLays156.z4
  v4 := dLays156.v4
  t9 := dLays156.t9
  a9 := dLays156.a9
  z9 := dLays156.z9
  v9 := dLays156.v9
  t20 := dLays156.t20
  a20 := dLays156.a20
  z20 := dLays156.z20
  v20 := dLays156.v20
  t37 := dLays156.t37
  a37 := dLays156.a37
  z37 := dLays156.z37
  v37 := dLays156.v37
  t70 := dLays156.t70
  a70 := dLays156.a70
  z70 := dLays156.z70
  v70 := dLays156.v70
  t72 := dLays156.t72
  a72 := dLays156.a72
  z72 := dLays156.z72
  v72 := dLays156.v72
  t75 := dLays156.t75
  a75 := dLays156.a75
  z75 := dLays156.z75
  v75 := dLays156.v75
  t164 := dLays156.t164
  a164 := dLays156.a164
  z164 := dLays156.z164
  v164 := dLays156.v164 }
end Go.Proofs.YtdjpghgnjcmdnaaGreatDoor

/- Words of 32 bits as the walks spell them: a word is 'N x' for x a bit vector; what the program's operations on words come to. -/
namespace Go.Proofs.YtdjpghgnjcmdnaaGreatDoor
open Go

/-- The number of a word. -/
def N (x : BitVec 32) : Int := (x.toNat : Int)

theorem N_nonneg (x : BitVec 32) : 0 ≤ N x := by unfold N; omega
theorem N_lt (x : BitVec 32) : N x < 4294967296 := by unfold N; have := x.isLt; omega
theorem ofInt_N (x : BitVec 32) : BitVec.ofInt 32 (N x) = x := by
  unfold N; rw [BitVec.ofInt_natCast]; simp
theorem wrapN (n : Int) : IntKind.u32.wrap n = N (BitVec.ofInt 32 n) := by
  rw [IntKind.wrap_u32']; unfold N; rw [BitVec.toNat_ofInt]; omega
theorem N_xor (x y : BitVec 32) : bits .xor .u32 (N x) (N y) = N (x ^^^ y) := by
  show IntKind.u32.wrap ((BitVec.ofInt 32 (N x) ^^^ BitVec.ofInt 32 (N y)).toNat : Int) = _
  rw [ofInt_N, ofInt_N, wrapN]; exact congrArg N (ofInt_N _)
theorem N_and (x y : BitVec 32) : bits .and .u32 (N x) (N y) = N (x &&& y) := by
  show IntKind.u32.wrap ((BitVec.ofInt 32 (N x) &&& BitVec.ofInt 32 (N y)).toNat : Int) = _
  rw [ofInt_N, ofInt_N, wrapN]; exact congrArg N (ofInt_N _)
theorem N_or (x y : BitVec 32) : bits .or .u32 (N x) (N y) = N (x ||| y) := by
  show IntKind.u32.wrap ((BitVec.ofInt 32 (N x) ||| BitVec.ofInt 32 (N y)).toNat : Int) = _
  rw [ofInt_N, ofInt_N, wrapN]; exact congrArg N (ofInt_N _)
theorem N_add (x y : BitVec 32) : IntKind.u32.wrap (N x + N y) = N (x + y) := by
  rw [wrapN, BitVec.ofInt_add, ofInt_N, ofInt_N]
theorem N_shr (x : BitVec 32) (k : Nat) : N x / 2 ^ k = N (x >>> k) := by
  unfold N; rw [BitVec.toNat_ushiftRight, Nat.shiftRight_eq_div_pow]; simp
theorem N_shl (x : BitVec 32) (k : Nat) : IntKind.u32.wrap (N x * 2 ^ k) = N (x <<< k) := by
  rw [IntKind.wrap_u32']; unfold N; rw [BitVec.toNat_shiftLeft, Nat.shiftLeft_eq]; simp
theorem N_addm (x y : BitVec 32) : (N x + N y) % 4294967296 = N (x + y) := by
  rw [← IntKind.wrap_u32']; exact N_add x y
theorem N_shlm (x : BitVec 32) (k : Nat) : N x * 2 ^ k % 4294967296 = N (x <<< k) := by
  rw [← IntKind.wrap_u32']; exact N_shl x k
theorem xor_ones (x : BitVec 32) : BitVec.allOnes 32 ^^^ x = ~~~x := by
  apply BitVec.eq_of_getLsbD_eq
  intro i hi
  rw [BitVec.getLsbD_xor, BitVec.getLsbD_allOnes, BitVec.getLsbD_not]
  simp [hi]
theorem N_not (x : BitVec 32) : bits .xor .u32 IntKind.u32.max (N x) = N (~~~x) := by
  have e : IntKind.u32.max = N (BitVec.allOnes 32) := by decide +kernel
  rw [e, N_xor, xor_ones]
theorem N_add3 (x y z : BitVec 32) : (N x + N y + N z) % 4294967296 = N (x + y + z) := by
  rw [← N_addm (x + y) z, ← N_addm x y]; omega
theorem N_add4 (x y z t : BitVec 32) : (N x + N y + N z + N t) % 4294967296 = N (x + y + z + t) := by
  rw [← N_addm (x + y + z) t, ← N_add3 x y z]; omega
theorem N_add5 (x y z t u : BitVec 32) : (N x + N y + N z + N t + N u) % 4294967296 = N (x + y + z + t + u) := by
  rw [← N_addm (x + y + z + t) u, ← N_add4 x y z t]; omega
theorem N_add12 (x y z : BitVec 32) : (N x + (N y + N z)) % 4294967296 = N (x + (y + z)) := by
  rw [← N_addm x (y + z), ← N_addm y z]; omega
theorem N_add13 (x y z t : BitVec 32) : (N x + (N y + N z + N t)) % 4294967296 = N (x + (y + z + t)) := by
  rw [← N_addm x (y + z + t), ← N_add3 y z t]; omega
theorem N_zero : N 0 = 0 := rfl
theorem N_inj {x y : BitVec 32} (h : N x = N y) : x = y := by
  have := congrArg (BitVec.ofInt 32) h; rwa [ofInt_N, ofInt_N] at this
theorem N_ofNat (n : Nat) (h : n < 4294967296) : N (BitVec.ofNat 32 n) = (n : Int) := by
  unfold N; rw [BitVec.toNat_ofNat, Nat.mod_eq_of_lt (by omega)]

/-- The i-th of some words; nought beyond them. -/
def wd (l : List (BitVec 32)) (i : Nat) : BitVec 32 := l.getD i 0
theorem wd_set_same (l : List (BitVec 32)) (i : Nat) (x : BitVec 32) (h : i < l.length) : wd (l.set i x) i = x := by simp [wd, h]
theorem wd_set_other (l : List (BitVec 32)) (i j : Nat) (x : BitVec 32) (h : i ≠ j) : wd (l.set i x) j = wd l j := by
  simp [wd, List.getElem?_set_ne h]

/-- A word turned to the right. -/
def rr (x : BitVec 32) (k : Nat) : BitVec 32 := x <<< (32 - k) ||| x >>> k
theorem rr_add (x : BitVec 32) (k : Nat) (_h : k ≤ 32) : x >>> k + x <<< (32 - k) = rr x k := by
  unfold rr
  rw [BitVec.or_comm]
  refine BitVec.add_eq_or_of_and_eq_zero _ _ ?_
  apply BitVec.eq_of_getLsbD_eq
  intro i hi
  simp [BitVec.getLsbD_shiftLeft]
  intro h1 _ h3
  rw [BitVec.getLsbD_of_ge x (k + i) (by omega)] at h1
  exact absurd h1 (by simp)
end Go.Proofs.YtdjpghgnjcmdnaaGreatDoor

/- A block of memory that holds words: what its cells read as, and what a store, a new block, a draw and a call above leave of it. -/
namespace Go.Proofs.YtdjpghgnjcmdnaaGreatDoor
open Go Go.RowKit

/-- Words as cells. -/
def rowW (l : List (BitVec 32)) : Array Value := (l.map fun x => Value.int .u32 (N x)).toArray
theorem rowW_size (l : List (BitVec 32)) : (rowW l).size = l.length := by simp [rowW]
theorem rowW_get (l : List (BitVec 32)) (i : Nat) (h : i < l.length) : (rowW l)[i]? = some (.int .u32 (N (wd l i))) := by
  simp [rowW, wd, h]
theorem rowW_set (l : List (BitVec 32)) (i : Nat) (x : BitVec 32) : (rowW l).setIfInBounds i (.int .u32 (N x)) = rowW (l.set i x) := by
  simp [rowW, List.map_set]
/-- Block B holds cells cs. -/
def HasR (w : World) (B : Nat) (t : TypeId) (cs : Array Value) : Prop := w.heap[B]? = some (.cells cs t (0, 0))
theorem HasR.cell {w : World} {B : Nat} {t : TypeId} {cs : Array Value} (h : HasR w B t cs) (i : Nat) : w.cell? ⟨B, i, none⟩ = cs[i]? :=
  cell_of_row w B i cs t (0, 0) h
theorem HasR.free {w : World} {B : Nat} {t : TypeId} {cs : Array Value} (h : HasR w B t cs) (i : Nat) : w.frozen? ⟨B, i, none⟩ = false :=
  frozen_of_row w B i cs t h
theorem HasR.lt {w : World} {B : Nat} {t : TypeId} {cs : Array Value} (h : HasR w B t cs) : B < w.heap.size := lt_of_block h
theorem HasR.set {w : World} {B : Nat} {t : TypeId} {cs : Array Value} (h : HasR w B t cs) (i : Nat) (v : Value) : HasR (w.setCell ⟨B, i, none⟩ v) B t (cs.setIfInBounds i v) := by
  unfold HasR at *
  have := heap_setCell_same w B i cs t v h
  simpa using this
theorem HasR.other {w : World} {B : Nat} {t : TypeId} {cs : Array Value} (h : HasR w B t cs) (a : Addr) (ha : B ≠ a.block) (v : Value) : HasR (w.setCell a v) B t cs := by
  unfold HasR at *; rw [heap_setCell_other w a B v ha]; exact h
theorem HasR.alloc {w : World} {B : Nat} {t : TypeId} {cs : Array Value} (h : HasR w B t cs) (o : Obj) : HasR (w.alloc o) B t cs := by
  have hl := h.lt
  unfold HasR at *; rw [Below.heap_alloc w o B hl]; exact h
theorem HasR.drew {w : World} {B : Nat} {t : TypeId} {cs : Array Value} (h : HasR w B t cs) : HasR w.drew B t cs := h
theorem HasR.drewN {w : World} {B : Nat} {t : TypeId} {cs : Array Value} (h : HasR w B t cs) (n : Nat) : HasR (w.drewN n) B t cs := h
theorem HasR.new (w : World) (t : TypeId) (cs : Array Value) : HasR (w.alloc (.cells cs t)) w.heap.size t cs := heap_alloc_new w _
theorem HasR.below {w w' : World} {b B : Nat} {t : TypeId} {cs : Array Value} (h : HasR w B t cs) (hb : Below b w w') (hB : B < b) : HasR w' B t cs := by
  unfold HasR at *; rw [hb.block B hB]; exact h

/-- Block B holds the words l. -/
def HasW (w : World) (B : Nat) (t : TypeId) (l : List (BitVec 32)) : Prop := HasR w B t (rowW l)
theorem HasW.cell {w : World} {B : Nat} {t : TypeId} {l : List (BitVec 32)} (h : HasW w B t l) (i : Nat) (hi : i < l.length) : w.cell? ⟨B, i, none⟩ = some (.int .u32 (N (wd l i))) := by
  rw [HasR.cell h, rowW_get l i hi]
theorem HasW.free {w : World} {B : Nat} {t : TypeId} {l : List (BitVec 32)} (h : HasW w B t l) (i : Nat) : w.frozen? ⟨B, i, none⟩ = false := HasR.free h i
theorem HasW.lt {w : World} {B : Nat} {t : TypeId} {l : List (BitVec 32)} (h : HasW w B t l) : B < w.heap.size := HasR.lt h
theorem HasW.set {w : World} {B : Nat} {t : TypeId} {l : List (BitVec 32)} (h : HasW w B t l) (i : Nat) (x : BitVec 32) : HasW (w.setCell ⟨B, i, none⟩ (.int .u32 (N x))) B t (l.set i x) := by
  have := HasR.set h i (.int .u32 (N x))
  unfold HasW; rw [← rowW_set]; exact this
theorem HasW.other {w : World} {B : Nat} {t : TypeId} {l : List (BitVec 32)} (h : HasW w B t l) (a : Addr) (ha : B ≠ a.block) (v : Value) : HasW (w.setCell a v) B t l := HasR.other h a ha v
theorem HasW.alloc {w : World} {B : Nat} {t : TypeId} {l : List (BitVec 32)} (h : HasW w B t l) (o : Obj) : HasW (w.alloc o) B t l := HasR.alloc h o
theorem HasW.drew {w : World} {B : Nat} {t : TypeId} {l : List (BitVec 32)} (h : HasW w B t l) : HasW w.drew B t l := h
theorem HasW.drewN {w : World} {B : Nat} {t : TypeId} {l : List (BitVec 32)} (h : HasW w B t l) (n : Nat) : HasW (w.drewN n) B t l := h
theorem HasW.below {w w' : World} {b B : Nat} {t : TypeId} {l : List (BitVec 32)} (h : HasW w B t l) (hb : Below b w w') (hB : B < b) : HasW w' B t l := HasR.below h hb hB
theorem HasR.sets : ∀ (vs : List Value) (o : Nat) (w : World) (B : Nat) (t : TypeId) (cs : Array Value), HasR w B t cs → o + vs.length ≤ cs.size → HasR (w.setCells B o vs) B t (cs.toList.take o ++ vs ++ cs.toList.drop (o + vs.length)).toArray
  | [], o, w, B, t, cs, h, _ => by simpa [World.setCells] using h
  | v :: r, o, w, B, t, cs, h, hl => by
    simp only [List.length_cons] at hl
    have ih := HasR.sets r (o + 1) _ B t _ (HasR.set h o v) (by simp; omega)
    have e : (cs.setIfInBounds o v).toList.take (o + 1) ++ r ++ (cs.setIfInBounds o v).toList.drop (o + 1 + r.length) = cs.toList.take o ++ v :: r ++ cs.toList.drop (o + (v :: r).length) := by
      rw [Array.toList_setIfInBounds]
      have ho : o < cs.toList.length := by simp; omega
      rw [List.drop_set_of_lt (by omega)]
      have e1 : (cs.toList.set o v).take (o + 1) = cs.toList.take o ++ [v] := by
        rw [List.take_succ_eq_append_getElem (by simpa using ho), List.getElem_set_self, List.take_set_of_le (Nat.le_refl _)]
      rw [e1]
      have e2 : o + 1 + r.length = o + (v :: r).length := by simp; omega
      rw [e2]; simp
    rw [e] at ih
    exact ih
theorem HasR.whole {w : World} {B : Nat} {t : TypeId} {cs : Array Value} (h : HasR w B t cs) (vs : List Value) (hl : vs.length = cs.size) : HasR (w.setCells B 0 vs) B t vs.toArray := by
  have := HasR.sets vs 0 w B t cs h (by omega)
  have e : cs.toList.take 0 ++ vs ++ cs.toList.drop (0 + vs.length) = vs := by
    rw [List.drop_of_length_le (by simp; omega)]; simp
  rw [e] at this; exact this
theorem HasR.others : ∀ (vs : List Value) (o : Nat) (w : World) (b B : Nat) (t : TypeId) (cs : Array Value), HasR w B t cs → B ≠ b → HasR (w.setCells b o vs) B t cs
  | [], _, _, _, _, _, _, h, _ => h
  | v :: r, o, _, b, B, t, cs, h, hB => HasR.others r (o + 1) _ b B t cs (HasR.other h ⟨b, o, none⟩ hB v) hB
theorem below_setCells : ∀ (vs : List Value) (o : Nat) (a w : World) (b B : Nat), Below B a w → B ≤ b → Below B a (w.setCells b o vs)
  | [], _, _, _, _, _, h, _ => h
  | v :: r, o, a, _, b, B, h, hB => below_setCells r (o + 1) a _ b B (h.setCell hB v) hB
theorem size_setCells : ∀ (vs : List Value) (o : Nat) (w : World) (b : Nat), (w.setCells b o vs).heap.size = w.heap.size
  | [], _, _, _ => rfl
  | v :: r, o, w, b => by
    have := size_setCells r (o + 1) (w.setCell ⟨b, o, none⟩ v) b
    simpa [World.setCells] using this
theorem HasR.there {w : World} {B : Nat} {t : TypeId} {cs : Array Value} (h : HasR w B t cs) : w.there B 0 cs.size := fun j hj => by
  simp only [Nat.zero_add]
  exact ⟨by rw [HasR.cell h, Array.getElem?_eq_getElem hj]; rfl, HasR.free h j⟩
theorem rowW_one (l : List (BitVec 32)) : (rowW l).all (·.oneCell') = true := by
  refine Array.all_eq_true_iff_forall_mem.2 ?_
  intro v hv
  simp only [rowW, List.mem_toArray, List.mem_map] at hv
  obtain ⟨x, _, rfl⟩ := hv
  rfl
/-- Sixty-four noughts. -/
def zs : List (BitVec 32) := List.replicate 64 0
theorem zs_len : zs.length = 64 := rfl
theorem keep_cell {w : World} {B i j : Nat} {v u : Value} (h : w.cell? ⟨B, i, none⟩ = some u) (hij : j ≠ i) : (w.setCell ⟨B, j, none⟩ v).cell? ⟨B, i, none⟩ = some u := by
  have e : (w.setCell ⟨B, j, none⟩ v).cell? ⟨B, i, none⟩ = w.cell? ⟨B, i, none⟩ := World.cell?_setCell_other w ⟨B, j, none⟩ ⟨B, i, none⟩ v (by intro e; injection e; omega)
  rw [e]; exact h
theorem hide {p : Prop} (h : p) : Hid p := h
theorem HasR.new2 (w : World) (o : Obj) (t : TypeId) (cs : Array Value) : HasR ((w.alloc o).alloc (.cells cs t)) (w.heap.size + 1) t cs := heap_alloc2_new w _ _
theorem zeros64 : (#[.int .u32 0, .int .u32 0, .int .u32 0, .int .u32 0, .int .u32 0, .int .u32 0, .int .u32 0, .int .u32 0, .int .u32 0, .int .u32 0, .int .u32 0, .int .u32 0, .int .u32 0, .int .u32 0, .int .u32 0, .int .u32 0, .int .u32 0, .int .u32 0, .int .u32 0, .int .u32 0, .int .u32 0, .int .u32 0, .int .u32 0, .int .u32 0, .int .u32 0, .int .u32 0, .int .u32 0, .int .u32 0, .int .u32 0, .int .u32 0, .int .u32 0, .int .u32 0, .int .u32 0, .int .u32 0, .int .u32 0, .int .u32 0, .int .u32 0, .int .u32 0, .int .u32 0, .int .u32 0, .int .u32 0, .int .u32 0, .int .u32 0, .int .u32 0, .int .u32 0, .int .u32 0, .int .u32 0, .int .u32 0, .int .u32 0, .int .u32 0, .int .u32 0, .int .u32 0, .int .u32 0, .int .u32 0, .int .u32 0, .int .u32 0, .int .u32 0, .int .u32 0, .int .u32 0, .int .u32 0, .int .u32 0, .int .u32 0, .int .u32 0, .int .u32 0] : Array Value) = rowW zs := rfl
/-- A whole row of words is stored into a block. (Said of the operation as it is written, so that it is met by looking.) -/
theorem store_row {P : Program} {ops : Array Oper} {rest : List Oper} {a : Act} {w : World} {Q : Exit → Act → World → Prop} {t : TypeId} {pos : String} {af : Array Edge} {x y : Operand} (ty : TypeId) (b : Nat) (l : List (BitVec 32)) (tt : TypeId) (cs : Array Value)
    (hx : a.eval x = .pointer (some ⟨b, 0, none⟩)) (hy : a.eval y = .agg (rowW l)) (hr : HasR w b tt cs) (hl : l.length = cs.size) (hi : (P.info? ty).map (·.size) = some l.length)
    (h : wpList P ops Q rest (a.put none undef) (w.setCells b 0 (rowW l).toList)) :
    wpList P ops Q (⟨none, .store ty x y, t, pos, af, none⟩ :: rest) a w :=
  wpList_store_mid rfl ty x y rfl b 0 (rowW l) hx hy (by rw [rowW_size, hl]; exact hr.there) (by rw [rowW_size]; exact hi) (rowW_one l) h
/-- A whole row of words is read out of a block. -/
theorem load_row {P : Program} {ops : Array Oper} {rest : List Oper} {a : Act} {w : World} {Q : Exit → Act → World → Prop} {t : TypeId} {pos : String} {af : Array Edge} {x : Operand} {d : Tmp} (ty : TypeId) (b : Nat) (l : List (BitVec 32)) (tt : TypeId) {td : TypeDesc}
    (hx : a.eval x = .pointer (some ⟨b, 0, none⟩)) (hr : HasW w b tt l) (hu : P.underlying ty = some td) (hd : (match td with | .struct _ | .array _ _ => true | _ => false) = true) (hi : (P.info? ty).map (·.size) = some l.length)
    (h : wpList P ops Q rest (a.put (some d) (.agg (rowW l))) w) :
    wpList P ops Q (⟨some d, .load ty x, t, pos, af, none⟩ :: rest) a w :=
  wpList_load_row rfl ty x rfl b hx tt (rowW l) (0, 0) td hr hu hd (by rw [rowW_size]; exact hi) h
theorem whole_words {w W : World} {B : Nat} {t : TypeId} {cs : Array Value} {l : List (BitVec 32)} (h : HasR w B t cs) (hW : w.setCells B 0 (rowW l).toList = W) (hl : l.length = cs.size) : HasW W B t l := by
  have := HasR.whole h (rowW l).toList (by rw [Array.length_toList, rowW_size, hl])
  rw [hW] at this
  show HasR W B t (rowW l)
  simpa using this
theorem HasR.others' {w W : World} {b B o : Nat} {t : TypeId} {cs : Array Value} {vs : List Value} (h : HasR w B t cs) (hW : w.setCells b o vs = W) (hB : B ≠ b) : HasR W B t cs := hW ▸ HasR.others vs o w b B t cs h hB
theorem below_setCells' {a w W : World} {b B o : Nat} {vs : List Value} (h : Below B a w) (hW : w.setCells b o vs = W) (hB : B ≤ b) : Below B a W := hW ▸ below_setCells vs o a w b B h hB
theorem HasR.new' {w : World} {B : Nat} (h : w.heap.size = B) (t : TypeId) (cs : Array Value) : HasR (w.alloc (.cells cs t)) B t cs := h ▸ HasR.new w t cs
theorem HasR.set8 {w : World} {B : Nat} {t : TypeId} {cs : Array Value} (h : HasR w B t cs) (hs : cs.size = 8) (x0 x1 x2 x3 x4 x5 x6 x7 : Value) :
    HasR ((((((((w.setCell ⟨B, 0, none⟩ x0).setCell ⟨B, 1, none⟩ x1).setCell ⟨B, 2, none⟩ x2).setCell ⟨B, 3, none⟩ x3).setCell ⟨B, 4, none⟩ x4).setCell ⟨B, 5, none⟩ x5).setCell ⟨B, 6, none⟩ x6).setCell ⟨B, 7, none⟩ x7) B t #[x0, x1, x2, x3, x4, x5, x6, x7] :=
  HasR.whole h [x0, x1, x2, x3, x4, x5, x6, x7] (by simp [hs])
theorem HasR.other8 {w : World} {b B : Nat} {t : TypeId} {cs : Array Value} (h : HasR w B t cs) (hB : B ≠ b) (x0 x1 x2 x3 x4 x5 x6 x7 : Value) :
    HasR ((((((((w.setCell ⟨b, 0, none⟩ x0).setCell ⟨b, 1, none⟩ x1).setCell ⟨b, 2, none⟩ x2).setCell ⟨b, 3, none⟩ x3).setCell ⟨b, 4, none⟩ x4).setCell ⟨b, 5, none⟩ x5).setCell ⟨b, 6, none⟩ x6).setCell ⟨b, 7, none⟩ x7) B t cs :=
  HasR.others [x0, x1, x2, x3, x4, x5, x6, x7] 0 w b B t cs h hB
theorem below_set8 {a w : World} {b B : Nat} (h : Below B a w) (hB : B ≤ b) (x0 x1 x2 x3 x4 x5 x6 x7 : Value) :
    Below B a ((((((((w.setCell ⟨b, 0, none⟩ x0).setCell ⟨b, 1, none⟩ x1).setCell ⟨b, 2, none⟩ x2).setCell ⟨b, 3, none⟩ x3).setCell ⟨b, 4, none⟩ x4).setCell ⟨b, 5, none⟩ x5).setCell ⟨b, 6, none⟩ x6).setCell ⟨b, 7, none⟩ x7) :=
  below_setCells [x0, x1, x2, x3, x4, x5, x6, x7] 0 a w b B h hB
end Go.Proofs.YtdjpghgnjcmdnaaGreatDoor

/- Slices that the calls themselves make: a row of cells that is read, grown by appending, and turned into a text. -/
namespace Go.Proofs.YtdjpghgnjcmdnaaGreatDoor
open Go Go.RowKit

/-- The slice of n elements at the head of block g, of capacity cap, has the elements xs; nothing in it is shut. -/
structure BR (w : World) (base : Nat) (e : TypeId) (g n cap : Nat) (xs : List Value) : Prop where
  len : xs.length = n
  base : base ≤ g
  le : n ≤ cap
  blk : ∃ cur fr, w.heap[g]? = some (.cells cur e fr) ∧ cur.size = cap ∧ cur.toList.take n = xs ∧ (fr.2 ≤ fr.1 ∨ cap ≤ fr.1)

theorem BR.lt {w : World} {base : Nat} {e : TypeId} {g n cap : Nat} {xs : List Value} (h : BR w base e g n cap xs) : g < w.heap.size := by
  obtain ⟨cur, fr, hg, _⟩ := h.blk
  exact lt_of_block hg
theorem BR.same {w w' : World} {base : Nat} {e : TypeId} {g n cap : Nat} {xs : List Value} (h : BR w base e g n cap xs) (hw : w'.heap[g]? = w.heap[g]?) : BR w' base e g n cap xs :=
  ⟨h.len, h.base, h.le, by rw [hw]; exact h.blk⟩
theorem BR.cell {w : World} {base : Nat} {e : TypeId} {g n cap : Nat} {xs : List Value} (h : BR w base e g n cap xs) (j : Nat) (hj : j < n) : w.cell? ⟨g, j, none⟩ = xs[j]? := by
  obtain ⟨cur, fr, hg, hs, ht, _⟩ := h.blk
  rw [cell_of_row w g j cur e fr hg, ← ht, List.getElem?_take_of_lt hj]
  simp
theorem BR.alloc {w : World} {base : Nat} {e : TypeId} {g n cap : Nat} {xs : List Value} (h : BR w base e g n cap xs) (o : Obj) : BR (w.alloc o) base e g n cap xs :=
  h.same (Below.heap_alloc w o g h.lt)
theorem BR.drew {w : World} {base : Nat} {e : TypeId} {g n cap : Nat} {xs : List Value} (h : BR w base e g n cap xs) : BR w.drew base e g n cap xs := h.same rfl
theorem BR.drewN {w : World} {base : Nat} {e : TypeId} {g n cap : Nat} {xs : List Value} (h : BR w base e g n cap xs) (k : Nat) : BR (w.drewN k) base e g n cap xs := h.same rfl
theorem BR.other {w : World} {base : Nat} {e : TypeId} {g n cap : Nat} {xs : List Value} (h : BR w base e g n cap xs) (a : Addr) (ha : g ≠ a.block) (v : Value) : BR (w.setCell a v) base e g n cap xs :=
  h.same (heap_setCell_other w a g v ha)
theorem BR.below {w w' : World} {b base : Nat} {e : TypeId} {g n cap : Nat} {xs : List Value} (h : BR w base e g n cap xs) (hb : Below b w w') (hg : g < b) : BR w' base e g n cap xs :=
  h.same (hb.block g hg)
theorem BR.kept {w w' : World} {base : Nat} {e : TypeId} {g n cap : Nat} {xs : List Value} {row : Option Nat} (h : BR w base e g n cap xs) (hg : w.grownBy w' row) (hr : some g ≠ row) : BR w' base e g n cap xs :=
  h.same (hg.block g h.lt hr)
theorem BR.mono {w : World} {base base' : Nat} {e : TypeId} {g n cap : Nat} {xs : List Value} (h : BR w base e g n cap xs) (hb : base' ≤ base) : BR w base' e g n cap xs :=
  ⟨h.len, Nat.le_trans hb h.base, h.le, h.blk⟩
theorem HasR.kept {w w' : World} {B : Nat} {t : TypeId} {cs : Array Value} {row : Option Nat} (h : HasR w B t cs) (hg : w.grownBy w' row) (hr : some B ≠ row) : HasR w' B t cs := by
  have hl := h.lt
  unfold HasR at *; rw [hg.block B hl hr]; exact h
theorem BR.of_owns {w : World} {base : Nat} {e : TypeId} {v : Value} {n : Nat} {xs : List Value} (h : w.ownsRow base e 1 v n xs) (hn : 0 < n) : ∃ g cap, v = .slice (some ⟨g, 0, none⟩) n cap ∧ BR w base e g n cap xs := by
  obtain ⟨hl, h2⟩ := h
  rcases h2 with ⟨_, h0⟩ | ⟨g, cap, cur, hv, hb, hg, hle, _, hs, ht⟩
  · omega
  · simp only [Nat.mul_one] at hl hs ht
    exact ⟨g, cap, hv, ⟨hl, hb, hle, cur, (0, 0), hg, hs, ht, .inl (Nat.le_refl _)⟩⟩
/-- The head of a block that has just been laid with the one element. -/
theorem news_one {w : World} (x : Value) (e : TypeId) : ∀ (j : Nat) (u : Value), [x][j]? = some u → (w.alloc (.cells #[x] e)).cell? ((⟨w.heap.size, 0, none⟩ : Addr).add j) = some u :=
  World.news_of_block (heap_alloc_new w _)
theorem news_blk {w : World} {B : Nat} {e : TypeId} {cs : Array Value} (h : HasR w B e cs) : ∀ (j : Nat) (u : Value), cs.toList[j]? = some u → w.cell? ((⟨B, 0, none⟩ : Addr).add j) = some u :=
  World.news_of_block h

/-- What the table says of a slice's element that is one cell. -/
structure Elem (P : Program) (t e : TypeId) (i : TypeInfo) (z : Value) (bytes : Nat) : Prop where
  ht : P.underlying t = some (.slice e)
  hi : P.info? e = some i
  hz : i.zero = some z
  hs : i.size = 1
  hb : i.bytes = bytes
  hc : z.cells.size = 1
  h8 : bytes ≤ 16

/-- The slice that is appended to: nil, or a row of the calls' own. -/
def BRn (w : World) (base : Nat) (e : TypeId) (v : Value) (n : Nat) (xs : List Value) : Prop :=
  (v = .slice none 0 0 ∧ n = 0 ∧ xs = []) ∨ ∃ g cap, v = .slice (some ⟨g, 0, none⟩) n cap ∧ BR w base e g n cap xs
theorem BRn.nil (w : World) (base : Nat) (e : TypeId) : BRn w base e (.slice none 0 0) 0 [] := .inl ⟨rfl, rfl, rfl⟩
theorem BRn.of {w : World} {base : Nat} {e : TypeId} {g n cap : Nat} {xs : List Value} (h : BR w base e g n cap xs) : BRn w base e (.slice (some ⟨g, 0, none⟩) n cap) n xs := .inr ⟨g, cap, rfl, h⟩
theorem BRn.alloc {w : World} {base : Nat} {e : TypeId} {v : Value} {n : Nat} {xs : List Value} (h : BRn w base e v n xs) (o : Obj) : BRn (w.alloc o) base e v n xs := by
  rcases h with h | ⟨g, cap, hv, h⟩
  · exact .inl h
  · exact .inr ⟨g, cap, hv, h.alloc o⟩
theorem BRn.len {w : World} {base : Nat} {e : TypeId} {v : Value} {n : Nat} {xs : List Value} (h : BRn w base e v n xs) : xs.length = n := by
  rcases h with ⟨_, h1, h2⟩ | ⟨g, cap, hv, h⟩
  · rw [h1, h2]; rfl
  · exact h.len

theorem grownBy_setCells (w : World) (g o : Nat) (vs : List Value) : w.grownBy (w.setCells g o vs) (some g) := by
  have hb : ∀ (vs : List Value) (o : Nat) (w : World), (w.setCells g o vs).os = w.os ∧ (w.setCells g o vs).tape = w.tape ∧ (w.setCells g o vs).output = w.output ∧ ∀ k, k ≠ g → (w.setCells g o vs).heap[k]? = w.heap[k]? := by
    intro vs
    induction vs with
    | nil => intro o w; exact ⟨rfl, rfl, rfl, fun _ _ => rfl⟩
    | cons v r ih =>
      intro o w
      obtain ⟨h1, h2, h3, h4⟩ := ih (o + 1) (w.setCell ⟨g, o, none⟩ v)
      exact ⟨h1, h2, h3, fun k hk => by rw [World.setCells, h4 k hk]; exact heap_setCell_other w ⟨g, o, none⟩ k v hk⟩
  obtain ⟨h1, h2, h3, h4⟩ := hb vs o w
  exact ⟨h1, h2, h3, by rw [size_setCells]; exact Nat.le_refl _, fun k _ hk => h4 k (fun e => hk (by rw [e]))⟩

theorem heap_setCells_fr : ∀ (vs : List Value) (o : Nat) (w : World) (g : Nat) (t : TypeId) (cur : Array Value) (fr : Nat × Nat), w.heap[g]? = some (.cells cur t fr) → o + vs.length ≤ cur.size →
    (w.setCells g o vs).heap[g]? = some (.cells (cur.toList.take o ++ vs ++ cur.toList.drop (o + vs.length)).toArray t fr)
  | [], o, w, g, t, cur, fr, h, _ => by simpa [World.setCells] using h
  | v :: r, o, w, g, t, cur, fr, h, hl => by
    simp only [List.length_cons] at hl
    have h1 : (w.setCell ⟨g, o, none⟩ v).heap[g]? = some (.cells (cur.setIfInBounds o v) t fr) := by
      simp [World.setCell, Array.getElem?_modify, h]
    have ih := heap_setCells_fr r (o + 1) _ g t _ fr h1 (by simp; omega)
    have e : (cur.setIfInBounds o v).toList.take (o + 1) ++ r ++ (cur.setIfInBounds o v).toList.drop (o + 1 + r.length) = cur.toList.take o ++ v :: r ++ cur.toList.drop (o + (v :: r).length) := by
      rw [Array.toList_setIfInBounds]
      have ho : o < cur.toList.length := by simp; omega
      rw [List.drop_set_of_lt (by omega)]
      have e1 : (cur.toList.set o v).take (o + 1) = cur.toList.take o ++ [v] := by
        rw [List.take_succ_eq_append_getElem (by simpa using ho), List.getElem_set_self, List.take_set_of_le (Nat.le_refl _)]
      rw [e1]
      have e2 : o + 1 + r.length = o + (v :: r).length := by simp; omega
      rw [e2]; simp
    rw [e] at ih
    exact ih

/-- APPENDED: to nil or to a row of the calls' own. (Said of the operation as it is written.) -/
theorem append_br {P : Program} {ops : Array Oper} {rest : List Oper} {a : Act} {w : World} {Q : Exit → Act → World → Prop} {tt : TypeId} {pos : String} {af : Array Edge} {s x : Operand} {d : Tmp} {t : TypeId}
    (e : TypeId) {i : TypeInfo} {z : Value} {bytes : Nat} (hE : Elem P t e i z bytes) (base : Nat) (v : Value) (n : Nat) (xs : List Value) (ad : Addr) (m c : Nat) (news : List Value)
    (hs : a.eval s = v) (hx : a.eval x = .slice (some ad) m c) (hv : BRn w base e v n xs) (hm : news.length = m) (hm0 : 0 < m) (hnews : ∀ j u, news[j]? = some u → w.cell? (ad.add j) = some u) (h1 : ∀ u ∈ news, u.oneCell' = true)
    (hlen : n + m ≤ 1000000) (hbase : base ≤ w.heap.size)
    (h : ∀ g cap w', BR w' base e g (n + m) cap (xs ++ news) → w.grownBy w' v.ownBlock → (v.ownBlock = some g ∨ w.heap.size ≤ g) → Below base w w' → wpList P ops Q rest (a.put (some d) (.slice (some ⟨g, 0, none⟩) (n + m) cap)) w') :
    wpList P ops Q (⟨some d, .call { callee := .builtin .append, args := #[s, x], argTypes := #[t, t] }, tt, pos, af, none⟩ :: rest) a w := by
  have hby : (n + m) * bytes ≤ 140737488355328 := by
    have := hE.h8
    have h2 : (n + m) * bytes ≤ 1000000 * 16 := Nat.mul_le_mul hlen this
    omega
  rcases hv with ⟨rfl, rfl, rfl⟩ | ⟨g, cap, rfl, hr⟩
  · refine wpList_append_own w rfl s x t rfl w.heap.size e i z 1 bytes hE.ht hE.hi hE.hz hE.hs hE.hb hE.hc (by omega) (.slice none 0 0) 0 [] hs (World.ownsRow_nil _ _ _ _) ad m c news hx (by omega) hnews h1 (by unfold maxLen; omega) hby (Nat.le_refl _) ?_
    intro v' w' ho hg _
    obtain ⟨g, cap, rfl, hb⟩ := BR.of_owns ho (by omega)
    exact h g cap w' (hb.mono hbase) hg (.inr hb.base) ((Below.refl base w).grown hg hbase (by intro k hk; simp [Value.ownBlock] at hk))
  · obtain ⟨cur, fr, hgb, hsz, htk, hfr⟩ := hr.blk
    have hle := hr.le
    refine wpList_append_arg w rfl s x t rfl e i z 1 bytes hE.ht hE.hi hE.hz hE.hs hE.hb hE.hc (by omega) g 0 n cap xs hs (by rw [hr.len]; omega) ?_ ad m c news hx (by omega) hnews h1 ?_ (by unfold maxLen; omega) hby ?_ ?_
    · intro j u hj
      have hjn : j < n := by
        rw [← hr.len]
        exact (List.getElem?_eq_some_iff.1 hj).1
      rw [Nat.zero_add, hr.cell j hjn]; exact hj
    · intro hroom j hj
      have hj' : 0 + n * 1 + j < cap := by omega
      refine ⟨?_, ?_⟩
      · rw [cell_of_row w g _ cur e fr hgb, Array.getElem?_eq_getElem (by omega)]; rfl
      · unfold World.frozen?
        simp only [hgb]
        rcases hfr with h5 | h5
        · simp; omega
        · simp; omega
    · intro hroom
      have e1 : 0 + n * 1 = n := by omega
      rw [e1]
      refine h g cap (w.setCells g n news) ⟨by rw [List.length_append, hr.len, hm], hr.base, hroom, ?_⟩ (grownBy_setCells w g n news) (.inl rfl) (below_setCells news n w w g base (Below.refl _ _) hr.base)
      refine ⟨_, fr, heap_setCells_fr news n w g e cur fr hgb (by omega), ?_, ?_, hfr⟩
      · simp; omega
      · have hl2 : (cur.toList.take n ++ news).length = n + m := by simp; omega
        show (cur.toList.take n ++ news ++ cur.toList.drop (n + news.length)).take (n + m) = xs ++ news
        rw [List.take_append_of_le_length (by omega), List.take_of_length_le (by omega), htk]
    · intro hgr v' w' ho hg
      obtain ⟨g', cap', rfl, hb⟩ := BR.of_owns ho (by omega)
      exact h g' cap' w' (hb.mono hbase) ⟨hg.os, hg.tape, hg.output, hg.size, fun k hk _ => hg.block k hk (by simp)⟩ (.inr hb.base) ((Below.refl base w).grown hg hbase (by intro k hk; simp at hk))
end Go.Proofs.YtdjpghgnjcmdnaaGreatDoor
