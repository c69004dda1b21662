/- What ask.first does with a word, a number, a text. -/
import Derived.Shelf.Small.Bits
import Derived.Shelf.Small.Wraps
import Derived.Shelf.Strconv.Itoa0
import Derived.Shelf.Strconv.Itoa1
import Derived.Shelf.LaysM
import Derived.Shelf.Strconv.Itoa2
import Derived.Shelf.Strconv.Itoa3
import Derived.Shelf.Strconv.ParseIntEmpty
import Derived.Shelf.Strconv.Clone
import Derived.Shelf.Strconv.SyntaxError
import Derived.Shelf.LaysC
import Derived.Shelf.Strconv.ToError
import Derived.Shelf.Strconv.Lower
import Derived.Shelf.Strconv.ParseUint10
import Derived.Shelf.Strconv.ParseUint10Empty
import Derived.Shelf.Strconv.ParseUint10Any
import Derived.Shelf.Strconv.ParseInt10
import Derived.Shelf.Strconv.RangeError
import Derived.Shelf.Strconv.ToErrorRange
import Derived.Shelf.Strconv.ParseUintEmpty
import Derived.Shelf.Strconv.ParseUint10b64
import Derived.Shelf.Strconv.ParseUint10b32
import Derived.Shelf.Strconv.ParseUint10b16
import Derived.Shelf.Strconv.ParseUint10b8
import Derived.Shelf.Strconv.ParseUint10At
import Derived.Shelf.Strconv.ParseInt10At64
import Derived.Shelf.Strconv.ParseInt10At32
import Derived.Shelf.Strconv.ParseInt10At16
import Derived.Shelf.Strconv.ParseInt10At8
import Derived.Shelf.Strconv.ParseInt10All
import Derived.Shelf.Strconv.ParseIntPublic10
import Derived.Shelf.Strconv.ErrVarParseInt
import Derived.Shelf.Strings.Search1
import Derived.Shelf.Strings.Search2
import Derived.Shelf.Strings.Cut
import Derived.Shelf.GgClosure.StringsIndexFunc
import Derived.Shelf.GgClosure.StringsTrimFunc
import Derived.Ground.GgwProg
import Derived.Shelf.GgClosure.StringsIndexFuncTop
import Derived.Shelf.Strings.Prefix
import Derived.Ground.SlgnProg
import Derived.Shelf.SlicesE.Index
import Derived.Test.YtlnkbhbpkmnkaaaGreatDoorProg
import Derived.Test.YtlnkbhbpkmnkaaaGreatDoorAAA
import Derived.Lib.CutLaws
import Derived.Lib.Strings
import Derived.OwnWalk
import Derived.Laws.EntriesVeiled
namespace Go.Proofs
open Go.Shelf
def Tryz.lays103_ren : Go.Shelf.Ren := ⟨fun | 103 => 166 | 210 => 181 | 206 => 168 | n => n, fun | 9 => 9 | 4 => 4 | 24 => 202 | 3 => 3 | n => n, fun | n => n⟩
theorem Tryz.lays103 : Go.Proofs.Lays.n103 Tryz.prog Tryz.lays103_ren := {
  mixed := by kernel_rfl
  f103 := Tryz.func166.trans (congrArg some (by kernel_rfl))
  f206 := Tryz.func168.trans (congrArg some (by kernel_rfl))
  f210 := Tryz.func181.trans (congrArg some (by kernel_rfl))
  t3 := Tryz.underlying3
  a3 := Tryz.isAgg3
  z3 := Tryz.sizeOf3
  v3 := Tryz.zeroValue3
  t4 := Tryz.underlying4
  a4 := Tryz.isAgg4
  z4 := Tryz.sizeOf4
  v4 := Tryz.zeroValue4
  t9 := Tryz.underlying9
  a9 := Tryz.isAgg9
  z9 := Tryz.sizeOf9
  v9 := Tryz.zeroValue9
  t24 := Tryz.underlying202
  a24 := Tryz.isAgg202
  z24 := Tryz.sizeOf202
  v24 := Tryz.zeroValue202 }
open Go.RowKit in
/-- strings.CutPrefix: "CutPrefix returns s without the provided leading prefix string and reports whether it found the prefix. If s doesn't start with prefix, CutPrefix returns s, false. If prefix is the empty string, CutPrefix returns s, true.": IT RETURNS '(Lib.trimPrefix s p, Lib.hasPrefix s p)'; the world is as it was. (LAID: no walk: one application.) -/
theorem Tryz.strings_CutPrefix (s p : ByteArray) (w : World) :
    Calls Tryz.prog 166 #[.string s, .string p] w fun e w' => e = .returned (.tuple #[.string ⟨(Lib.trimPrefix s.data.toList p.data.toList).toArray⟩, .bool (Lib.hasPrefix s.data.toList p.data.toList)]) ∧ w' = w := Any.strings_CutPrefix Tryz.lays103 s p w
def Tryz.laysC174_ren : Go.Shelf.Ren := ⟨fun | 174 => 146 | 247 => 171 | 245 => 172 | 287 => 185 | 279 => 186 | 280 => 187 | 281 => 188 | 282 => 189 | 321 => 195 | 322 => 196 | 316 => 197 | 171 => 199 | 205 => 198 | 243 => 204 | 246 => 207 | 283 => 208 | 284 => 209 | 285 => 210 | 286 => 211 | 129 => 99 | 317 => 212 | 318 => 213 | 319 => 214 | 320 => 215 | 337 => 216 | 338 => 217 | n => n, fun | 9 => 9 | 3 => 3 | 2 => 2 | 75 => 51 | 85 => 210 | 4 => 4 | 167 => 245 | 5 => 5 | 53 => 160 | 175 => 246 | 46 => 66 | 168 => 248 | 37 => 41 | 0 => 0 | 210 => 257 | 21 => 21 | 127 => 261 | 145 => 264 | 143 => 262 | 171 => 268 | 173 => 270 | 212 => 273 | 51 => 158 | 20 => 20 | 213 => 274 | 232 => 275 | 233 => 276 | 80 => 125 | n => n, fun | 15 => 4 | 16 => 5 | 17 => 7 | 18 => 8 | 19 => 9 | n => n⟩
theorem Tryz.laysC174 : Go.Proofs.LaysC.n174 Tryz.prog Tryz.laysC174_ren := {
  mixed := by kernel_rfl
  f129 := Tryz.func99.trans (congrArg some (by kernel_rfl))
  f171 := Tryz.func199.trans (congrArg some (by kernel_rfl))
  f174 := Tryz.func146.trans (congrArg some (by kernel_rfl))
  f205 := Tryz.func198.trans (congrArg some (by kernel_rfl))
  f243 := Tryz.func204.trans (congrArg some (by kernel_rfl))
  f245 := Tryz.func172.trans (congrArg some (by kernel_rfl))
  f246 := Tryz.func207.trans (congrArg some (by kernel_rfl))
  f247 := Tryz.func171.trans (congrArg some (by kernel_rfl))
  f279 := Tryz.func186.trans (congrArg some (by kernel_rfl))
  f280 := Tryz.func187.trans (congrArg some (by kernel_rfl))
  f281 := Tryz.func188.trans (congrArg some (by kernel_rfl))
  f282 := Tryz.func189.trans (congrArg some (by kernel_rfl))
  f283 := Tryz.func208.trans (congrArg some (by kernel_rfl))
  f284 := Tryz.func209.trans (congrArg some (by kernel_rfl))
  f285 := Tryz.func210.trans (congrArg some (by kernel_rfl))
  f286 := Tryz.func211.trans (congrArg some (by kernel_rfl))
  f287 := Tryz.func185.trans (congrArg some (by kernel_rfl))
  f316 := Tryz.func197.trans (congrArg some (by kernel_rfl))
  f317 := Tryz.func212.trans (congrArg some (by kernel_rfl))
  f318 := Tryz.func213.trans (congrArg some (by kernel_rfl))
  f319 := Tryz.func214.trans (congrArg some (by kernel_rfl))
  f320 := Tryz.func215.trans (congrArg some (by kernel_rfl))
  f321 := Tryz.func195.trans (congrArg some (by kernel_rfl))
  f322 := Tryz.func196.trans (congrArg some (by kernel_rfl))
  f337 := Tryz.func216.trans (congrArg some (by kernel_rfl))
  f338 := Tryz.func217.trans (congrArg some (by kernel_rfl))
  t0 := Tryz.underlying0
  a0 := Tryz.isAgg0
  z0 := Tryz.sizeOf0
  v0 := Tryz.zeroValue0
  t2 := Tryz.underlying2
  a2 := Tryz.isAgg2
  z2 := Tryz.sizeOf2
  v2 := Tryz.zeroValue2
  t3 := Tryz.underlying3
  a3 := Tryz.isAgg3
  z3 := Tryz.sizeOf3
  v3 := Tryz.zeroValue3
  t4 := Tryz.underlying4
  a4 := Tryz.isAgg4
  z4 := Tryz.sizeOf4
  v4 := Tryz.zeroValue4
  t5 := Tryz.underlying5
  a5 := Tryz.isAgg5
  z5 := Tryz.sizeOf5
  v5 := Tryz.zeroValue5
  t9 := Tryz.underlying9
  a9 := Tryz.isAgg9
  z9 := Tryz.sizeOf9
  v9 := Tryz.zeroValue9
  t20 := Tryz.underlying20
  a20 := Tryz.isAgg20
  z20 := Tryz.sizeOf20
  v20 := Tryz.zeroValue20
  t21 := Tryz.underlying21
  a21 := Tryz.isAgg21
  z21 := Tryz.sizeOf21
  v21 := Tryz.zeroValue21
  t37 := Tryz.underlying41
  a37 := Tryz.isAgg41
  z37 := Tryz.sizeOf41
  v37 := Tryz.zeroValue41
  t46 := Tryz.underlying66
  a46 := Tryz.isAgg66
  z46 := Tryz.sizeOf66
  v46 := Tryz.zeroValue66
  t51 := Tryz.underlying158
  a51 := Tryz.isAgg158
  z51 := Tryz.sizeOf158
  v51 := Tryz.zeroValue158
  t53 := Tryz.underlying160
  a53 := Tryz.isAgg160
  z53 := Tryz.sizeOf160
  v53 := Tryz.zeroValue160
  t75 := Tryz.underlying51
  a75 := Tryz.isAgg51
  z75 := Tryz.sizeOf51
  v75 := Tryz.zeroValue51
  t85 := Tryz.underlying210
  a85 := Tryz.isAgg210
  z85 := Tryz.sizeOf210
  v85 := Tryz.zeroValue210
  t127 := Tryz.underlying261
  a127 := Tryz.isAgg261
  z127 := Tryz.sizeOf261
  v127 := Tryz.zeroValue261
  t143 := Tryz.underlying262
  a143 := Tryz.isAgg262
  z143 := Tryz.sizeOf262
  v143 := Tryz.zeroValue262
  t145 := Tryz.underlying264
  a145 := Tryz.isAgg264
  z145 := Tryz.sizeOf264
  v145 := Tryz.zeroValue264
  t167 := Tryz.underlying245
  a167 := Tryz.isAgg245
  z167 := Tryz.sizeOf245
  v167 := Tryz.zeroValue245
  t168 := Tryz.underlying248
  a168 := Tryz.isAgg248
  z168 := Tryz.sizeOf248
  v168 := Tryz.zeroValue248
  t171 := Tryz.underlying268
  a171 := Tryz.isAgg268
  z171 := Tryz.sizeOf268
  v171 := Tryz.zeroValue268
  t173 := Tryz.underlying270
  a173 := Tryz.isAgg270
  z173 := Tryz.sizeOf270
  v173 := Tryz.zeroValue270
  t175 := Tryz.underlying246
  a175 := Tryz.isAgg246
  z175 := Tryz.sizeOf246
  v175 := Tryz.zeroValue246
  t210 := Tryz.underlying257
  a210 := Tryz.isAgg257
  z210 := Tryz.sizeOf257
  v210 := Tryz.zeroValue257
  t212 := Tryz.underlying273
  a212 := Tryz.isAgg273
  z212 := Tryz.sizeOf273
  v212 := Tryz.zeroValue273
  t213 := Tryz.underlying274
  a213 := Tryz.isAgg274
  z213 := Tryz.sizeOf274
  t232 := Tryz.underlying275
  a232 := Tryz.isAgg275
  z232 := Tryz.sizeOf275
  v232 := Tryz.zeroValue275
  t233 := Tryz.underlying276
  a233 := Tryz.isAgg276
  z233 := Tryz.sizeOf276
  v233 := Tryz.zeroValue276
  g15 := by kernel_rfl
  g16 := by kernel_rfl
  g17 := by kernel_rfl
  g18 := by kernel_rfl
  g19 := by kernel_rfl
  t80 := Tryz.underlying125
  a80 := Tryz.isAgg125
  z80 := Tryz.sizeOf125
  v80 := Tryz.zeroValue125
  i0 := by kernel_rfl
  i2 := by kernel_rfl
  i3 := by kernel_rfl
  i4 := by kernel_rfl
  i5 := by kernel_rfl
  i9 := by kernel_rfl
  i20 := by kernel_rfl
  i21 := by kernel_rfl
  i37 := by kernel_rfl
  i46 := by kernel_rfl
  i51 := by kernel_rfl
  i53 := by kernel_rfl
  i75 := by kernel_rfl
  i80 := by kernel_rfl
  i85 := by kernel_rfl
  i127 := by kernel_rfl
  i143 := by kernel_rfl
  i145 := by kernel_rfl
  i167 := by kernel_rfl
  i168 := by kernel_rfl
  i171 := by kernel_rfl
  i173 := by kernel_rfl
  i175 := by kernel_rfl
  i210 := by kernel_rfl
  i212 := by kernel_rfl
  i232 := by kernel_rfl
  i233 := by kernel_rfl
  m15 := by kernel_rfl
  m16 := by kernel_rfl
  m17 := by kernel_rfl
  m18 := by kernel_rfl
  m19 := by kernel_rfl
  c0 := by kernel_rfl
  c2 := by kernel_rfl
  c3 := by kernel_rfl
  c4 := by kernel_rfl
  c5 := by kernel_rfl
  c9 := by kernel_rfl
  c20 := by kernel_rfl
  c21 := by kernel_rfl
  c37 := by kernel_rfl
  c46 := by kernel_rfl
  c51 := by kernel_rfl
  c53 := by kernel_rfl
  c75 := by kernel_rfl
  c80 := by kernel_rfl
  c85 := by kernel_rfl
  c127 := by kernel_rfl
  c143 := by kernel_rfl
  c145 := by kernel_rfl
  c167 := by kernel_rfl
  c168 := by kernel_rfl
  c171 := by kernel_rfl
  c173 := by kernel_rfl
  c175 := by kernel_rfl
  c210 := by kernel_rfl
  c212 := by kernel_rfl
  c213 := by kernel_rfl
  c232 := by kernel_rfl
  c233 := by kernel_rfl }
open Go.RowKit in
/-- strconv.ParseInt(s, 10, 64), AT EVERY STRING THAT SPELLS AN int64 ('Lib.parseIntB 64 s.data.toList = .ok v'): v, AND NO ERROR. (LAID: no walk: one application.) -/
theorem Tryz.strconv_ParseInt_10_at64_ok (s : ByteArray) (hmax : s.size ≤ 9223372036854775806) (v : Int) (h : Lib.parseIntB 64 s.data.toList = .ok v) (w : World) :
    Calls Tryz.prog 146 #[.string s, .int .i64 10, .int .i64 64] w fun e w' => e = .returned (.tuple #[.int .i64 v, .nilIface]) ∧ (w' = w ∨ ∃ t, w' = Lib.bytesWorld w 5 t) := Any.strconv_ParseInt_10_at64_ok Tryz.laysC174 s hmax v h w
open Go.RowKit in
/-- strconv.ParseInt(s, 10, 64), AT EVERY STRING THAT IS NO DECIMAL NUMERAL: 0, AND AN ERROR THAT IS NOT nil: a *NumError in a new block N: {Func: "ParseInt", Num: s's bytes, Err: what the variable ErrSyntax holds}. Of what was there nothing has turned. (LAID: no walk: one application.) -/
theorem Tryz.strconv_ParseInt_10_at64_syntax (s : ByteArray) (hlim : s.size ≤ 281474976710656) (h : Lib.parseIntB 64 s.data.toList = .«syntax») (ev : Value) (w : World) (hv : w.cell? ⟨4, 0, none⟩ = some ev) (hev : ev = .nilIface ∨ ∃ te pe, ev = .iface te pe) :
    Calls Tryz.prog 146 #[.string s, .int .i64 10, .int .i64 64] w fun e w' => ∃ N, e = .returned (.tuple #[.int .i64 (0), .iface 248 (.pointer (some ⟨N, 0, none⟩))]) ∧ w.heap.size ≤ N ∧ w'.heap[N]? = some (.cells #[.string ⟨#[80, 97, 114, 115, 101, 73, 110, 116]⟩, .string s, ev] 257 (0, 0)) ∧ Below w.heap.size w w' := Any.strconv_ParseInt_10_at64_syntax Tryz.laysC174 s hlim h ev w hv hev
open Go.RowKit in
/-- strconv.ParseInt(s, 10, 64), AT EVERY NUMERAL THAT NO int64 HOLDS: THE GREATEST OR THE LEAST int64, BY THE SIGN ('Lib.intSat 64'), AND AN ERROR THAT IS NOT nil: a *NumError in a new block N: {Func: "ParseInt", Num: s's bytes, Err: what the variable ErrRange holds}. Of what was there nothing has turned. (LAID: no walk: one application.) -/
theorem Tryz.strconv_ParseInt_10_at64_range (s : ByteArray) (hlim : s.size ≤ 281474976710656) (h : Lib.parseIntB 64 s.data.toList = .range) (ev : Value) (w : World) (hv : w.cell? ⟨5, 0, none⟩ = some ev) (hev : ev = .nilIface ∨ ∃ te pe, ev = .iface te pe) :
    Calls Tryz.prog 146 #[.string s, .int .i64 10, .int .i64 64] w fun e w' => ∃ N, e = .returned (.tuple #[.int .i64 (Lib.intSat 64 s.data.toList), .iface 248 (.pointer (some ⟨N, 0, none⟩))]) ∧ w.heap.size ≤ N ∧ w'.heap[N]? = some (.cells #[.string ⟨#[80, 97, 114, 115, 101, 73, 110, 116]⟩, .string s, ev] 257 (0, 0)) ∧ Below w.heap.size w w' := Any.strconv_ParseInt_10_at64_range Tryz.laysC174 s hlim h ev w hv hev
def Tryz.lays219_ren : Go.Shelf.Ren := ⟨fun | 219 => 194 | 217 => 200 | 225 => 201 | 224 => 202 | 267 => 203 | 266 => 205 | 314 => 206 | n => n, fun | 9 => 9 | 3 => 3 | 4 => 4 | 5 => 5 | 46 => 66 | 146 => 265 | 51 => 158 | n => n, fun | 1 => 6 | n => n⟩
theorem Tryz.lays219 : Go.Proofs.Lays.n219 Tryz.prog Tryz.lays219_ren := {
  mixed := by kernel_rfl
  f217 := Tryz.func200.trans (congrArg some (by kernel_rfl))
  f219 := Tryz.func194.trans (congrArg some (by kernel_rfl))
  f224 := Tryz.func202.trans (congrArg some (by kernel_rfl))
  f225 := Tryz.func201.trans (congrArg some (by kernel_rfl))
  f266 := Tryz.func205.trans (congrArg some (by kernel_rfl))
  f267 := Tryz.func203.trans (congrArg some (by kernel_rfl))
  f314 := Tryz.func206.trans (congrArg some (by kernel_rfl))
  t3 := Tryz.underlying3
  a3 := Tryz.isAgg3
  z3 := Tryz.sizeOf3
  v3 := Tryz.zeroValue3
  t4 := Tryz.underlying4
  a4 := Tryz.isAgg4
  z4 := Tryz.sizeOf4
  v4 := Tryz.zeroValue4
  t5 := Tryz.underlying5
  a5 := Tryz.isAgg5
  z5 := Tryz.sizeOf5
  v5 := Tryz.zeroValue5
  t9 := Tryz.underlying9
  a9 := Tryz.isAgg9
  z9 := Tryz.sizeOf9
  v9 := Tryz.zeroValue9
  t46 := Tryz.underlying66
  a46 := Tryz.isAgg66
  z46 := Tryz.sizeOf66
  v46 := Tryz.zeroValue66
  t51 := Tryz.underlying158
  a51 := Tryz.isAgg158
  z51 := Tryz.sizeOf158
  v51 := Tryz.zeroValue158
  t146 := Tryz.underlying265
  a146 := Tryz.isAgg265
  z146 := Tryz.sizeOf265
  v146 := Tryz.zeroValue265
  g1 := by kernel_rfl }
open Go.RowKit Go.Lib in
/-- internal/stringslite.Index (what strings.Index calls) AT A substr OF ONE BYTE c: IT RETURNS 'Lib.indexByte s c'; the world is as it was. (LAID: no walk: one application.) -/
theorem Tryz.stringslite_Index_one (s : ByteArray) (c : UInt8) (w : World) :
    Calls Tryz.prog 194 #[.string s, .string ⟨#[c]⟩] w fun e w' => e = .returned (.int .i64 (Lib.indexByte s.data.toList c)) ∧ w' = w := Any.stringslite_Index_one Tryz.lays219 s c w
def Tryz.lays99_ren : Go.Shelf.Ren := ⟨fun | 99 => 140 | 206 => 168 | n => n, fun | 9 => 9 | 4 => 4 | 3 => 3 | n => n, fun | n => n⟩
theorem Tryz.lays99 : Go.Proofs.Lays.n99 Tryz.prog Tryz.lays99_ren := {
  mixed := by kernel_rfl
  f99 := Tryz.func140.trans (congrArg some (by kernel_rfl))
  f206 := Tryz.func168.trans (congrArg some (by kernel_rfl))
  t3 := Tryz.underlying3
  a3 := Tryz.isAgg3
  z3 := Tryz.sizeOf3
  v3 := Tryz.zeroValue3
  t4 := Tryz.underlying4
  a4 := Tryz.isAgg4
  z4 := Tryz.sizeOf4
  v4 := Tryz.zeroValue4
  t9 := Tryz.underlying9
  a9 := Tryz.isAgg9
  z9 := Tryz.sizeOf9
  v9 := Tryz.zeroValue9 }
open Go.RowKit Go.Lib in
/-- strings.HasPrefix: "HasPrefix reports whether the string s begins with prefix.": IT RETURNS 'Lib.hasPrefix s prefix'; the world is as it was. (LAID: no walk: one application.) -/
theorem Tryz.strings_HasPrefix (s p : ByteArray) (w : World) :
    Calls Tryz.prog 140 #[.string s, .string p] w fun e w' => e = .returned (.bool (Lib.hasPrefix s.data.toList p.data.toList)) ∧ w' = w := Any.strings_HasPrefix Tryz.lays99 s p w
def Tryz.lays101_ren : Go.Shelf.Ren := ⟨fun | 101 => 138 | 208 => 165 | 206 => 168 | n => n, fun | 9 => 9 | 4 => 4 | 3 => 3 | n => n, fun | n => n⟩
theorem Tryz.lays101 : Go.Proofs.Lays.n101 Tryz.prog Tryz.lays101_ren := {
  mixed := by kernel_rfl
  f101 := Tryz.func138.trans (congrArg some (by kernel_rfl))
  f206 := Tryz.func168.trans (congrArg some (by kernel_rfl))
  f208 := Tryz.func165.trans (congrArg some (by kernel_rfl))
  t3 := Tryz.underlying3
  a3 := Tryz.isAgg3
  z3 := Tryz.sizeOf3
  v3 := Tryz.zeroValue3
  t4 := Tryz.underlying4
  a4 := Tryz.isAgg4
  z4 := Tryz.sizeOf4
  v4 := Tryz.zeroValue4
  t9 := Tryz.underlying9
  a9 := Tryz.isAgg9
  z9 := Tryz.sizeOf9
  v9 := Tryz.zeroValue9 }
open Go.RowKit Go.Lib in
/-- strings.TrimPrefix: "TrimPrefix returns s without the provided leading prefix string. If s doesn't start with prefix, s is returned unchanged.": IT RETURNS 'Lib.trimPrefix s prefix'; the world is as it was. (LAID: no walk: one application.) -/
theorem Tryz.strings_TrimPrefix (s p : ByteArray) (w : World) :
    Calls Tryz.prog 138 #[.string s, .string p] w fun e w' => e = .returned (.string ⟨(Lib.trimPrefix s.data.toList p.data.toList).toArray⟩) ∧ w' = w := Any.strings_TrimPrefix Tryz.lays101 s p w
end Go.Proofs
namespace Go.Proofs.YtlnkbhbpkmnkaaaGreatDoor
open Go.RowKit Go.Proofs Go.Lib Go.Proofs.YtlnkbhbpkmnkaaaGreatDoor.Ask

def bA (l : List UInt8) : ByteArray := ⟨l.toArray⟩
theorem bA_list (t : ByteArray) : bA t.data.toList = t := by simp [bA]
theorem bA_toList (l : List UInt8) : (bA l).data.toList = l := by simp [bA]
theorem bA_size {l : List UInt8} : (bA l).size = l.length := by simp [bA, ByteArray.size]
theorem cutB_no {s : ByteArray} {c : UInt8} (h : indexByte s.data.toList c = -1) : bA (cutL c s.data.toList).1 = s ∧ bA (cutL c s.data.toList).2.1 = ⟨#[]⟩ ∧ (cutL c s.data.toList).2.2 = false := by
  rw [cut_index_no h]
  exact ⟨bA_list s, rfl, rfl⟩
theorem cutB_yes {s : ByteArray} {c : UInt8} {i : Nat} (h : indexByte s.data.toList c = i) : bA (cutL c s.data.toList).1 = s.extract 0 i ∧ bA (cutL c s.data.toList).2.1 = s.extract (i + 1) s.size ∧ (cutL c s.data.toList).2.2 = true ∧ i < s.size := by
  obtain ⟨e, hl⟩ := cut_index_yes h
  rw [e]
  refine ⟨?_, ?_, rfl, by rw [Array.length_toList] at hl; exact hl⟩
  · rw [extract_eq]; simp [bA]
  · have ht : List.take (s.size - (i + 1)) (List.drop (i + 1) s.data.toList) = List.drop (i + 1) s.data.toList :=
      List.take_of_length_le (by rw [List.length_drop, ← size_eq]; exact Nat.le_refl _)
    rw [extract_eq, ht]
    rfl
set_option maxHeartbeats 1000000 in
theorem cutS_any (s : ByteArray) (c : UInt8) (w : World) (hs : s.size ≤ maxLen) :
    Calls Tryz.prog 182 #[.string s, .string ⟨#[c]⟩] w fun e w' => e = .returned (.tuple #[.string (bA (cutL c s.data.toList).1), .string (bA (cutL c s.data.toList).2.1), .bool (cutL c s.data.toList).2.2]) ∧ ∃ n, w' = w.drewN n := by
  unfold maxLen at hs
  rcases index_cases s.data.toList c with hi | ⟨i, hi⟩
  · obtain ⟨e1, e2, e3⟩ := cutB_no hi
    rw [e1, e2, e3]
    have HC := mkH (fun W => Tryz.stringslite_Index_one s c W)
    rw [hi] at HC
    clear hi e1 e2 e3
    go_enter Tryz.func182, Tryz.ntmps182
    go_wp2_with (go_at_call 194; refine (HC.out _).mono ?_; rintro e w' ⟨rfl, rfl⟩)
    go_ret3
    exact ⟨rfl, 0, rfl⟩
  · obtain ⟨e1, e2, e3, hl⟩ := cutB_yes hi
    rw [e1, e2, e3]
    have HC := mkH (fun W => Tryz.stringslite_Index_one s c W)
    rw [hi] at HC
    clear hi e1 e2 e3
    have c1 : (0 : Int) ≤ (i : Int) := by omega
    have c2 : (i : Int) ≤ (s.size : Int) := by omega
    have c3 : (0 : Int) ≤ (i : Int) + 1 := by omega
    have c4 : (i : Int) + 1 ≤ (s.size : Int) := by omega
    go_enter Tryz.func182, Tryz.ntmps182
    go_wp2_with (go_at_call 194; refine (HC.out _).mono ?_; rintro e w' ⟨rfl, rfl⟩)
    go_region
    go_wp2
    go_ret3
    exact ⟨rfl, 1, rfl⟩
theorem cut_any (s : ByteArray) (c : UInt8) (w : World) (hs : s.size ≤ maxLen) :
    Calls Tryz.prog 167 #[.string s, .string ⟨#[c]⟩] w fun e w' => e = .returned (.tuple #[.string (bA (cutL c s.data.toList).1), .string (bA (cutL c s.data.toList).2.1), .bool (cutL c s.data.toList).2.2]) ∧ Below w.heap.size w w' := by
  have HC := mkH (cutS_any s c w hs)
  generalize bA (cutL c s.data.toList).1 = x at *
  generalize bA (cutL c s.data.toList).2.1 = y at *
  generalize (cutL c s.data.toList).2.2 = z at *
  go_enter Tryz.func167, Tryz.ntmps167
  go_wp2_with (go_at_call 182; refine HC.out.mono ?_; rintro e w' ⟨rfl, n, rfl⟩)
  go_ret3
  exact ⟨rfl, ⟨rfl, rfl, rfl, Nat.le_refl _, fun _ _ => rfl⟩⟩

/-- The two errors of package strconv lie where its text lays them. -/
def ErrB (w : World) : Prop := (∃ te pe, w.cell? ⟨4, 0, none⟩ = some (.iface te pe)) ∧ ∃ te pe, w.cell? ⟨5, 0, none⟩ = some (.iface te pe)
theorem cell_lt {w : World} {b o : Nat} {v : Value} (h : w.cell? ⟨b, o, none⟩ = some v) : b < w.heap.size := Lib.lt_of_cell h
theorem ErrB.below {w W : World} (h : ErrB w) (hb : Below w.heap.size w W) : ErrB W := by
  obtain ⟨⟨t1, p1, h1⟩, t2, p2, h2⟩ := h
  exact ⟨⟨t1, p1, (hb.cell (p := ⟨4, 0, none⟩) (cell_lt h1)).trans h1⟩, t2, p2, (hb.cell (p := ⟨5, 0, none⟩) (cell_lt h2)).trans h2⟩
/-- A number, and no error; or none, and an error. -/
def NumPost (l : List UInt8) (w : World) (e : Ending) (w' : World) : Prop := ∃ (n : Int) (er : Value), e = .returned (.tuple #[.int .i64 n, er]) ∧ Below w.heap.size w w' ∧ ((numT l = some n ∧ er = .nilIface) ∨ (numT l = none ∧ ∃ t x, er = .iface t x))
theorem below_bytes {w : World} {t : Nat} {x : ByteArray} : Below w.heap.size w (Lib.bytesWorld w t x) := Lib.bytesWorld_below _ _ _
theorem parse_any (s : ByteArray) (w : World) (hs : s.size ≤ 100000000) (he : ErrB w) : Calls Tryz.prog 146 #[.string s, .int .i64 10, .int .i64 64] w (NumPost s.data.toList w) := by
  obtain ⟨⟨t1, p1, h1⟩, t2, p2, h2⟩ := he
  cases h : atoiAll s.data.toList with
  | ok v =>
    refine (Tryz.strconv_ParseInt_10_at64_ok s (by omega) v ((parseIntB_64 _).trans h) w).mono ?_
    rintro e w' ⟨rfl, hw⟩
    refine ⟨v, _, rfl, ?_, .inl ⟨by simp [numT, h], rfl⟩⟩
    rcases hw with rfl | ⟨t, rfl⟩
    · exact Below.refl _ _
    · exact Lib.bytesWorld_below _ _ _
  | «syntax» =>
    refine (Tryz.strconv_ParseInt_10_at64_syntax s (by omega) ((parseIntB_64 _).trans h) _ w h1 (.inr ⟨_, _, rfl⟩)).mono ?_
    rintro e w' ⟨N, rfl, _, _, hb⟩
    exact ⟨_, _, rfl, hb, .inr ⟨by simp [numT, h], _, _, rfl⟩⟩
  | range =>
    refine (Tryz.strconv_ParseInt_10_at64_range s (by omega) ((parseIntB_64 _).trans h) _ w h2 (.inr ⟨_, _, rfl⟩)).mono ?_
    rintro e w' ⟨N, rfl, _, _, hb⟩
    exact ⟨_, _, rfl, hb, .inr ⟨by simp [numT, h], _, _, rfl⟩⟩

def quR (s : List UInt8) : List UInt8 := (cutL 39 (trimPrefix s [39])).1
def quB (s : List UInt8) : Bool := hasPrefix s [39] && (cutL 39 (trimPrefix s [39])).2.2
theorem trim_le (s p : List UInt8) : (trimPrefix s p).length ≤ s.length := by
  unfold trimPrefix; split <;> simp
set_option maxHeartbeats 1000000 in
theorem quoted_any (s : ByteArray) (w : World) (hs : s.size ≤ maxLen) :
    Calls Tryz.prog 139 #[.string s] w fun e w' => e = .returned (.tuple #[.string (bA (quR s.data.toList)), .bool (quB s.data.toList)]) ∧ Below w.heap.size w w' := by
  have H1 := mkH (fun W => Tryz.strings_CutPrefix s ⟨#[39]⟩ W)
  have hl : (bA (trimPrefix s.data.toList [39])).size ≤ maxLen := by
    rw [bA_size]; have := trim_le s.data.toList [39]; rw [size_eq] at hs; omega
  have H2 := mkH (fun W => cut_any (bA (trimPrefix s.data.toList [39])) 39 W hl)
  rw [bA_toList] at H2
  change Hid (∀ W, Calls _ _ _ _ fun e w' => e = .returned (.tuple #[.string (bA (trimPrefix s.data.toList [39])), .bool (hasPrefix s.data.toList [39])]) ∧ _) at H1
  have HR : Hid (quB s.data.toList = (hasPrefix s.data.toList [39] && (cutL 39 (trimPrefix s.data.toList [39])).2.2)) := rfl
  have HQ : Hid (quR s.data.toList = (cutL 39 (trimPrefix s.data.toList [39])).1) := rfl
  generalize quB s.data.toList = q1 at *
  generalize quR s.data.toList = q2 at *
  generalize hasPrefix s.data.toList [39] = b1 at *
  generalize (cutL 39 (trimPrefix s.data.toList [39])).2.2 = b2 at *
  generalize (cutL 39 (trimPrefix s.data.toList [39])).1 = t1 at *
  generalize (cutL 39 (trimPrefix s.data.toList [39])).2.1 = t2 at *
  generalize bA (trimPrefix s.data.toList [39]) = u at *
  cases b1 <;> cases b2
  all_goals
    go_enter Tryz.func139, Tryz.ntmps139
    go_wp2_with (first
      | (go_at_call 166; refine (H1.out _).mono ?_; rintro e w1 ⟨rfl, rfl⟩)
      | (go_at_call 167; refine (H2.out _).mono ?_; rintro e w2 ⟨rfl, hb2⟩))
    go_ret2
    rw [HR.out, HQ.out]
    exact ⟨rfl, hb2⟩
/-- Something is thrown: an At. -/
def Thrown (e : Ending) : Prop := ∃ a : Addr, e = .panicked [{ v := .iface 91 (.pointer (some a)), recovered := false }]
set_option maxHeartbeats 1000000 in
theorem throw_any (er pl : Int) (w : World) :
    Calls Tryz.prog 103 #[.int .i64 er, .int .i64 pl] w fun e w' => Thrown e ∧ Below w.heap.size w w' := by
  go_enter Tryz.func103, Tryz.ntmps103
  go_wp2
  refine ⟨rfl, ?_⟩
  exact ⟨⟨_, rfl⟩, (Below.refl _ _).alloc (Nat.le_refl _) _⟩
end Go.Proofs.YtlnkbhbpkmnkaaaGreatDoor
namespace Go.Proofs.YtlnkbhbpkmnkaaaGreatDoor
open Go.RowKit Go.Proofs Go.Lib Go.Proofs.YtlnkbhbpkmnkaaaGreatDoor.Ask

/-- The words that are no names, as the project's text lays them. -/
structure NnB (w : World) : Prop where
  c0 : w.cell? ⟨2, 0, none⟩ = some (.string ⟨#[97, 110, 100]⟩)
  c1 : w.cell? ⟨2, 1, none⟩ = some (.string ⟨#[105, 115]⟩)
  c2 : w.cell? ⟨2, 2, none⟩ = some (.string ⟨#[110, 111, 116]⟩)
  c3 : w.cell? ⟨2, 3, none⟩ = some (.string ⟨#[110, 117, 108, 108]⟩)
  c4 : w.cell? ⟨2, 4, none⟩ = some (.string ⟨#[111, 114]⟩)
  c5 : w.cell? ⟨2, 5, none⟩ = some (.string ⟨#[98, 121]⟩)
  c6 : w.cell? ⟨2, 6, none⟩ = some (.string ⟨#[100, 101, 115, 99]⟩)
  c7 : w.cell? ⟨2, 7, none⟩ = some (.string ⟨#[108, 105, 109, 105, 116]⟩)
  c8 : w.cell? ⟨2, 8, none⟩ = some (.string ⟨#[111, 114, 100, 101, 114]⟩)
  c9 : w.cell? ⟨2, 9, none⟩ = some (.string ⟨#[115, 101, 108, 101, 99, 116]⟩)
  c10 : w.cell? ⟨2, 10, none⟩ = some (.string ⟨#[119, 104, 101, 114, 101]⟩)
theorem NnB.lt {w : World} (h : NnB w) : 2 < w.heap.size := Lib.lt_of_cell h.c0
theorem NnB.below {w W : World} (h : NnB w) (hb : Below w.heap.size w W) : NnB W where
  c0 := (hb.cell (p := ⟨2, 0, none⟩) h.lt).trans h.c0
  c1 := (hb.cell (p := ⟨2, 1, none⟩) h.lt).trans h.c1
  c2 := (hb.cell (p := ⟨2, 2, none⟩) h.lt).trans h.c2
  c3 := (hb.cell (p := ⟨2, 3, none⟩) h.lt).trans h.c3
  c4 := (hb.cell (p := ⟨2, 4, none⟩) h.lt).trans h.c4
  c5 := (hb.cell (p := ⟨2, 5, none⟩) h.lt).trans h.c5
  c6 := (hb.cell (p := ⟨2, 6, none⟩) h.lt).trans h.c6
  c7 := (hb.cell (p := ⟨2, 7, none⟩) h.lt).trans h.c7
  c8 := (hb.cell (p := ⟨2, 8, none⟩) h.lt).trans h.c8
  c9 := (hb.cell (p := ⟨2, 9, none⟩) h.lt).trans h.c9
  c10 := (hb.cell (p := ⟨2, 10, none⟩) h.lt).trans h.c10
def isW (s : ByteArray) (l : List UInt8) : Bool := s.toList == l
def mayN (s : ByteArray) : Bool := !(isW s [97, 110, 100] || (isW s [105, 115] || (isW s [110, 111, 116] || (isW s [110, 117, 108, 108] || (isW s [111, 114] || (isW s [98, 121] || (isW s [100, 101, 115, 99] || (isW s [108, 105, 109, 105, 116] || (isW s [111, 114, 100, 101, 114] || (isW s [115, 101, 108, 101, 99, 116] || (isW s [119, 104, 101, 114, 101])))))))))))
theorem nix0 (w : World) : (Instr.index 208 (.agg #[.string ⟨#[97, 110, 100]⟩, .string ⟨#[105, 115]⟩, .string ⟨#[110, 111, 116]⟩, .string ⟨#[110, 117, 108, 108]⟩, .string ⟨#[111, 114]⟩, .string ⟨#[98, 121]⟩, .string ⟨#[100, 101, 115, 99]⟩, .string ⟨#[108, 105, 109, 105, 116]⟩, .string ⟨#[111, 114, 100, 101, 114]⟩, .string ⟨#[115, 101, 108, 101, 99, 116]⟩, .string ⟨#[119, 104, 101, 114, 101]⟩]) (.int .i64 0)).run Tryz.prog w = .ok (.string ⟨#[97, 110, 100]⟩) w := by kernel_rfl
theorem nix1 (w : World) : (Instr.index 208 (.agg #[.string ⟨#[97, 110, 100]⟩, .string ⟨#[105, 115]⟩, .string ⟨#[110, 111, 116]⟩, .string ⟨#[110, 117, 108, 108]⟩, .string ⟨#[111, 114]⟩, .string ⟨#[98, 121]⟩, .string ⟨#[100, 101, 115, 99]⟩, .string ⟨#[108, 105, 109, 105, 116]⟩, .string ⟨#[111, 114, 100, 101, 114]⟩, .string ⟨#[115, 101, 108, 101, 99, 116]⟩, .string ⟨#[119, 104, 101, 114, 101]⟩]) (.int .i64 1)).run Tryz.prog w = .ok (.string ⟨#[105, 115]⟩) w := by kernel_rfl
theorem nix2 (w : World) : (Instr.index 208 (.agg #[.string ⟨#[97, 110, 100]⟩, .string ⟨#[105, 115]⟩, .string ⟨#[110, 111, 116]⟩, .string ⟨#[110, 117, 108, 108]⟩, .string ⟨#[111, 114]⟩, .string ⟨#[98, 121]⟩, .string ⟨#[100, 101, 115, 99]⟩, .string ⟨#[108, 105, 109, 105, 116]⟩, .string ⟨#[111, 114, 100, 101, 114]⟩, .string ⟨#[115, 101, 108, 101, 99, 116]⟩, .string ⟨#[119, 104, 101, 114, 101]⟩]) (.int .i64 2)).run Tryz.prog w = .ok (.string ⟨#[110, 111, 116]⟩) w := by kernel_rfl
theorem nix3 (w : World) : (Instr.index 208 (.agg #[.string ⟨#[97, 110, 100]⟩, .string ⟨#[105, 115]⟩, .string ⟨#[110, 111, 116]⟩, .string ⟨#[110, 117, 108, 108]⟩, .string ⟨#[111, 114]⟩, .string ⟨#[98, 121]⟩, .string ⟨#[100, 101, 115, 99]⟩, .string ⟨#[108, 105, 109, 105, 116]⟩, .string ⟨#[111, 114, 100, 101, 114]⟩, .string ⟨#[115, 101, 108, 101, 99, 116]⟩, .string ⟨#[119, 104, 101, 114, 101]⟩]) (.int .i64 3)).run Tryz.prog w = .ok (.string ⟨#[110, 117, 108, 108]⟩) w := by kernel_rfl
theorem nix4 (w : World) : (Instr.index 208 (.agg #[.string ⟨#[97, 110, 100]⟩, .string ⟨#[105, 115]⟩, .string ⟨#[110, 111, 116]⟩, .string ⟨#[110, 117, 108, 108]⟩, .string ⟨#[111, 114]⟩, .string ⟨#[98, 121]⟩, .string ⟨#[100, 101, 115, 99]⟩, .string ⟨#[108, 105, 109, 105, 116]⟩, .string ⟨#[111, 114, 100, 101, 114]⟩, .string ⟨#[115, 101, 108, 101, 99, 116]⟩, .string ⟨#[119, 104, 101, 114, 101]⟩]) (.int .i64 4)).run Tryz.prog w = .ok (.string ⟨#[111, 114]⟩) w := by kernel_rfl
theorem nix5 (w : World) : (Instr.index 208 (.agg #[.string ⟨#[97, 110, 100]⟩, .string ⟨#[105, 115]⟩, .string ⟨#[110, 111, 116]⟩, .string ⟨#[110, 117, 108, 108]⟩, .string ⟨#[111, 114]⟩, .string ⟨#[98, 121]⟩, .string ⟨#[100, 101, 115, 99]⟩, .string ⟨#[108, 105, 109, 105, 116]⟩, .string ⟨#[111, 114, 100, 101, 114]⟩, .string ⟨#[115, 101, 108, 101, 99, 116]⟩, .string ⟨#[119, 104, 101, 114, 101]⟩]) (.int .i64 5)).run Tryz.prog w = .ok (.string ⟨#[98, 121]⟩) w := by kernel_rfl
theorem nix6 (w : World) : (Instr.index 208 (.agg #[.string ⟨#[97, 110, 100]⟩, .string ⟨#[105, 115]⟩, .string ⟨#[110, 111, 116]⟩, .string ⟨#[110, 117, 108, 108]⟩, .string ⟨#[111, 114]⟩, .string ⟨#[98, 121]⟩, .string ⟨#[100, 101, 115, 99]⟩, .string ⟨#[108, 105, 109, 105, 116]⟩, .string ⟨#[111, 114, 100, 101, 114]⟩, .string ⟨#[115, 101, 108, 101, 99, 116]⟩, .string ⟨#[119, 104, 101, 114, 101]⟩]) (.int .i64 6)).run Tryz.prog w = .ok (.string ⟨#[100, 101, 115, 99]⟩) w := by kernel_rfl
theorem nix7 (w : World) : (Instr.index 208 (.agg #[.string ⟨#[97, 110, 100]⟩, .string ⟨#[105, 115]⟩, .string ⟨#[110, 111, 116]⟩, .string ⟨#[110, 117, 108, 108]⟩, .string ⟨#[111, 114]⟩, .string ⟨#[98, 121]⟩, .string ⟨#[100, 101, 115, 99]⟩, .string ⟨#[108, 105, 109, 105, 116]⟩, .string ⟨#[111, 114, 100, 101, 114]⟩, .string ⟨#[115, 101, 108, 101, 99, 116]⟩, .string ⟨#[119, 104, 101, 114, 101]⟩]) (.int .i64 7)).run Tryz.prog w = .ok (.string ⟨#[108, 105, 109, 105, 116]⟩) w := by kernel_rfl
theorem nix8 (w : World) : (Instr.index 208 (.agg #[.string ⟨#[97, 110, 100]⟩, .string ⟨#[105, 115]⟩, .string ⟨#[110, 111, 116]⟩, .string ⟨#[110, 117, 108, 108]⟩, .string ⟨#[111, 114]⟩, .string ⟨#[98, 121]⟩, .string ⟨#[100, 101, 115, 99]⟩, .string ⟨#[108, 105, 109, 105, 116]⟩, .string ⟨#[111, 114, 100, 101, 114]⟩, .string ⟨#[115, 101, 108, 101, 99, 116]⟩, .string ⟨#[119, 104, 101, 114, 101]⟩]) (.int .i64 8)).run Tryz.prog w = .ok (.string ⟨#[111, 114, 100, 101, 114]⟩) w := by kernel_rfl
theorem nix9 (w : World) : (Instr.index 208 (.agg #[.string ⟨#[97, 110, 100]⟩, .string ⟨#[105, 115]⟩, .string ⟨#[110, 111, 116]⟩, .string ⟨#[110, 117, 108, 108]⟩, .string ⟨#[111, 114]⟩, .string ⟨#[98, 121]⟩, .string ⟨#[100, 101, 115, 99]⟩, .string ⟨#[108, 105, 109, 105, 116]⟩, .string ⟨#[111, 114, 100, 101, 114]⟩, .string ⟨#[115, 101, 108, 101, 99, 116]⟩, .string ⟨#[119, 104, 101, 114, 101]⟩]) (.int .i64 9)).run Tryz.prog w = .ok (.string ⟨#[115, 101, 108, 101, 99, 116]⟩) w := by kernel_rfl
theorem nix10 (w : World) : (Instr.index 208 (.agg #[.string ⟨#[97, 110, 100]⟩, .string ⟨#[105, 115]⟩, .string ⟨#[110, 111, 116]⟩, .string ⟨#[110, 117, 108, 108]⟩, .string ⟨#[111, 114]⟩, .string ⟨#[98, 121]⟩, .string ⟨#[100, 101, 115, 99]⟩, .string ⟨#[108, 105, 109, 105, 116]⟩, .string ⟨#[111, 114, 100, 101, 114]⟩, .string ⟨#[115, 101, 108, 101, 99, 116]⟩, .string ⟨#[119, 104, 101, 114, 101]⟩]) (.int .i64 10)).run Tryz.prog w = .ok (.string ⟨#[119, 104, 101, 114, 101]⟩) w := by kernel_rfl
set_option maxHeartbeats 8000000 in
theorem mayName_any (s : ByteArray) (w : World) (hw : NnB w) :
    Calls Tryz.prog 108 #[.string s] w fun e w' => e = .returned (.bool (mayN s)) ∧ w' = w := by
  have c0 := hw.c0
  have c1 := hw.c1
  have c2 := hw.c2
  have c3 := hw.c3
  have c4 := hw.c4
  have c5 := hw.c5
  have c6 := hw.c6
  have c7 := hw.c7
  have c8 := hw.c8
  have c9 := hw.c9
  have c10 := hw.c10
  have i0 := nix0
  have i1 := nix1
  have i2 := nix2
  have i3 := nix3
  have i4 := nix4
  have i5 := nix5
  have i6 := nix6
  have i7 := nix7
  have i8 := nix8
  have i9 := nix9
  have i10 := nix10
  clear hw
  go_enter Tryz.func108, Tryz.ntmps108
  go_wp2
  refine wp_loop_rounds 12 ?_
  rw [rounds_succ]
  go_wp2
  · have h : isW s [97, 110, 100] = true := by assumption
    go_ret
    exact ⟨ret_bool (by simp [mayN, h]), rfl⟩
  rw [rounds_succ]
  go_wp2
  · have h : isW s [105, 115] = true := by assumption
    go_ret
    exact ⟨ret_bool (by simp [mayN, h]), rfl⟩
  rw [rounds_succ]
  go_wp2
  · have h : isW s [110, 111, 116] = true := by assumption
    go_ret
    exact ⟨ret_bool (by simp [mayN, h]), rfl⟩
  rw [rounds_succ]
  go_wp2
  · have h : isW s [110, 117, 108, 108] = true := by assumption
    go_ret
    exact ⟨ret_bool (by simp [mayN, h]), rfl⟩
  rw [rounds_succ]
  go_wp2
  · have h : isW s [111, 114] = true := by assumption
    go_ret
    exact ⟨ret_bool (by simp [mayN, h]), rfl⟩
  rw [rounds_succ]
  go_wp2
  · have h : isW s [98, 121] = true := by assumption
    go_ret
    exact ⟨ret_bool (by simp [mayN, h]), rfl⟩
  rw [rounds_succ]
  go_wp2
  · have h : isW s [100, 101, 115, 99] = true := by assumption
    go_ret
    exact ⟨ret_bool (by simp [mayN, h]), rfl⟩
  rw [rounds_succ]
  go_wp2
  · have h : isW s [108, 105, 109, 105, 116] = true := by assumption
    go_ret
    exact ⟨ret_bool (by simp [mayN, h]), rfl⟩
  rw [rounds_succ]
  go_wp2
  · have h : isW s [111, 114, 100, 101, 114] = true := by assumption
    go_ret
    exact ⟨ret_bool (by simp [mayN, h]), rfl⟩
  rw [rounds_succ]
  go_wp2
  · have h : isW s [115, 101, 108, 101, 99, 116] = true := by assumption
    go_ret
    exact ⟨ret_bool (by simp [mayN, h]), rfl⟩
  rw [rounds_succ]
  go_wp2
  · have h : isW s [119, 104, 101, 114, 101] = true := by assumption
    go_ret
    exact ⟨ret_bool (by simp [mayN, h]), rfl⟩
  rw [rounds_succ]
  go_wp2
  have e0 : isW s [97, 110, 100] = false := by first | assumption | (apply Bool.eq_false_iff.2; assumption)
  have e1 : isW s [105, 115] = false := by first | assumption | (apply Bool.eq_false_iff.2; assumption)
  have e2 : isW s [110, 111, 116] = false := by first | assumption | (apply Bool.eq_false_iff.2; assumption)
  have e3 : isW s [110, 117, 108, 108] = false := by first | assumption | (apply Bool.eq_false_iff.2; assumption)
  have e4 : isW s [111, 114] = false := by first | assumption | (apply Bool.eq_false_iff.2; assumption)
  have e5 : isW s [98, 121] = false := by first | assumption | (apply Bool.eq_false_iff.2; assumption)
  have e6 : isW s [100, 101, 115, 99] = false := by first | assumption | (apply Bool.eq_false_iff.2; assumption)
  have e7 : isW s [108, 105, 109, 105, 116] = false := by first | assumption | (apply Bool.eq_false_iff.2; assumption)
  have e8 : isW s [111, 114, 100, 101, 114] = false := by first | assumption | (apply Bool.eq_false_iff.2; assumption)
  have e9 : isW s [115, 101, 108, 101, 99, 116] = false := by first | assumption | (apply Bool.eq_false_iff.2; assumption)
  have e10 : isW s [119, 104, 101, 114, 101] = false := by first | assumption | (apply Bool.eq_false_iff.2; assumption)
  go_ret
  exact ⟨ret_bool (by simp [mayN, e0, e1, e2, e3, e4, e5, e6, e7, e8, e9, e10]), rfl⟩
end Go.Proofs.YtlnkbhbpkmnkaaaGreatDoor
namespace Go.Proofs.YtlnkbhbpkmnkaaaGreatDoor
open Go.RowKit Go.Proofs Go.Lib Go.Proofs.YtlnkbhbpkmnkaaaGreatDoor.Ask

def tokV (k : Int) (t : ByteArray) (p c : Int) : Value := .agg #[.int .i64 k, .string t, .int .i64 p, .int .i64 c]
theorem run_small (s : ByteArray) (hs : s.size ≤ maxLen) (W : World) : Calls Tryz.prog 100 #[.string s, .func (.func 135) #[] #[]] W fun e w' => e = .returned (.int .i64 (runL smR s.data.toList : Int)) ∧ Below W.heap.size W w' :=
  run_any 135 #[] (enters_of Tryz.func135 (by kernel_rfl) rfl) smR smR_hi s W hs (fsmall_any W)
theorem run_digit (s : ByteArray) (hs : s.size ≤ maxLen) (W : World) : Calls Tryz.prog 100 #[.string s, .func (.func 136) #[] #[]] W fun e w' => e = .returned (.int .i64 (runL dgR s.data.toList : Int)) ∧ Below W.heap.size W w' :=
  run_any 136 #[] (enters_of Tryz.func136 (by kernel_rfl) rfl) dgR dgR_hi s W hs (fdigit_any W)
theorem run_blank (s : ByteArray) (hs : s.size ≤ maxLen) (W : World) : Calls Tryz.prog 100 #[.string s, .func (.func 101) #[] #[]] W fun e w' => e = .returned (.int .i64 (runL blR s.data.toList : Int)) ∧ Below W.heap.size W w' :=
  run_any 101 #[] (enters_of Tryz.func101 (by kernel_rfl) rfl) blR blR_hi s W hs (blank_any W)
theorem run_word (s : ByteArray) (hs : s.size ≤ maxLen) (B C : Nat) (W : World) (hB : B < W.heap.size) (hC : C < W.heap.size) (h4 : W.cell? ⟨B, 0, none⟩ = some (.func (.func 135) #[] #[])) (h5 : W.cell? ⟨C, 0, none⟩ = some (.func (.func 136) #[] #[])) : Calls Tryz.prog 100 #[.string s, .func (.func 137) #[] #[.pointer (some ⟨B, 0, none⟩), .pointer (some ⟨C, 0, none⟩)]] W fun e w' => e = .returned (.int .i64 (runL wcR s.data.toList : Int)) ∧ Below W.heap.size W w' :=
  run_any 137 #[.pointer (some ⟨B, 0, none⟩), .pointer (some ⟨C, 0, none⟩)] (enters_of Tryz.func137 (by kernel_rfl) rfl) wcR wcR_hi s W hs (fword_any W B C hB hC h4 h5)
theorem hmfA (fn : Fn) (first cap : Array Value) (w : World) : (Instr.makeFunc fn first cap).run Tryz.prog w = .ok (.func fn first cap) w := rfl
def oTok (k : Int) (t : ByteArray) (p c : Int) : Obj := .cells #[.int .i64 k, .string t, .int .i64 p, .int .i64 c] 164
def oFn (f : Nat) : Obj := .cells #[.func (.func f) #[] #[]] 162
/-- How the three boxes of ask.first lie. -/
structure Box3 (w W : World) : Prop where
  low : Below w.heap.size w W
  h0 : W.heap[w.heap.size]? = some (oTok 0 ⟨#[]⟩ 0 0)
  h1 : W.heap[w.heap.size + 1]? = some (oFn 135)
  h2 : W.heap[w.heap.size + 1 + 1]? = some (oFn 136)
def w3 (w : World) : World := ((w.alloc (oTok 0 ⟨#[]⟩ 0 0)).alloc (oFn 135)).alloc (oFn 136)
theorem blk_lt {w : World} {b : Nat} {o : Obj} (h : w.heap[b]? = some o) : b < w.heap.size := by
  rcases Nat.lt_or_ge b w.heap.size with h' | h'
  · exact h'
  · rw [Array.getElem?_eq_none h'] at h; cases h
theorem heap3 (w : World) (X Y Z : Obj) : (((w.alloc X).alloc Y).alloc Z).heap[w.heap.size]? = some X ∧ (((w.alloc X).alloc Y).alloc Z).heap[w.heap.size + 1]? = some Y ∧ (((w.alloc X).alloc Y).alloc Z).heap[w.heap.size + 1 + 1]? = some Z := by
  have a1 : Below ((w.alloc X).alloc Y).heap.size ((w.alloc X).alloc Y) (((w.alloc X).alloc Y).alloc Z) := (Below.refl _ _).alloc (Nat.le_refl _) _
  have a2 : Below (w.alloc X).heap.size (w.alloc X) (((w.alloc X).alloc Y).alloc Z) := ((Below.refl _ _).alloc (Nat.le_refl _) _).alloc (by simp) _
  refine ⟨(a2.block _ (by simp)).trans (heap_alloc_new w X), ?_, ?_⟩
  · have := heap_alloc_new (w.alloc X) Y
    rw [World.size_alloc] at this
    exact (a1.block _ (by simp)).trans this
  · have := heap_alloc_new ((w.alloc X).alloc Y) Z
    rw [World.size_alloc, World.size_alloc] at this
    exact this
theorem Box3.start (w : World) : Box3 w (w3 w) where
  low := ((((Below.refl _ w).alloc (Nat.le_refl _) _).alloc (by simp) _).alloc (by simp; omega) _)
  h0 := (heap3 w _ _ _).1
  h1 := (heap3 w _ _ _).2.1
  h2 := (heap3 w _ _ _).2.2
theorem Box3.on {w W V : World} (h : Box3 w W) (hb : Below W.heap.size W V) : Box3 w V where
  low := Below.ups h.low hb
  h0 := (hb.block _ (blk_lt h.h0)).trans h.h0
  h1 := (hb.block _ (blk_lt h.h1)).trans h.h1
  h2 := (hb.block _ (blk_lt h.h2)).trans h.h2
theorem cell_of_heap {w : World} {b : Nat} {cs : Array Value} {t : TypeId} (h : w.heap[b]? = some (.cells cs t)) (i : Nat) : w.cell? ⟨b, i, none⟩ = cs[i]? := by
  simp [World.cell?, h]
theorem cell_oFn {W : World} {b f : Nat} (h : W.heap[b]? = some (oFn f)) : W.cell? ⟨b, 0, none⟩ = some (.func (.func f) #[] #[]) := by
  simp [World.cell?, h, oFn]
theorem Box3.fro {w W : World} (h : Box3 w W) (i : Nat) : W.frozen? ⟨w.heap.size, i, none⟩ = false := by simp [World.frozen?, h.h0, oTok]
theorem Box3.low4 {w W : World} (h : Box3 w W) (a b c d : Value) : Below w.heap.size w ((((W.setCell ⟨w.heap.size, 0, none⟩ a).setCell ⟨w.heap.size, 1, none⟩ b).setCell ⟨w.heap.size, 2, none⟩ c).setCell ⟨w.heap.size, 3, none⟩ d) :=
  (((h.low.setCell (Nat.le_refl _) _).setCell (Nat.le_refl _) _).setCell (Nat.le_refl _) _).setCell (Nat.le_refl _) _
set_option maxHeartbeats 4000000 in
theorem first_word (s : ByteArray) (w : World) (hs : s.size ≤ maxLen) (h : 0 < runL smR s.data.toList) :
    Calls Tryz.prog 102 #[.string s] w fun e w' => e = .returned (.tuple #[tokV 1 (s.extract 0 (runL wcR s.data.toList)) 0 0, .int .i64 (runL wcR s.data.toList : Int)]) ∧ Below w.heap.size w w' := by
  have H1 := mkH (run_small s hs)
  have H3 := mkH (run_word s hs)
  have hmf := hmfA
  have hn := runL_le wcR s.data.toList
  rw [← size_eq] at hn
  unfold maxLen at hs
  generalize runL smR s.data.toList = m at *
  generalize runL wcR s.data.toList = n at *
  have c0 : (0 : Int) < (m : Int) := by omega
  have c1 : (0 : Int) ≤ (n : Int) := by omega
  have c2 : (n : Int) ≤ (s.size : Int) := by omega
  go_enter Tryz.func102, Tryz.ntmps102
  go_wp2_with fail
  refine (H1.out _).mono ?_
  rintro e w1 ⟨rfl, hb1⟩
  have hB1 : Hid (Box3 w w1) := (Box3.start w).on hb1
  clear hb1
  go_wp2_with fail
  refine (H3.out _ _ _ (blk_lt hB1.out.h1) (blk_lt hB1.out.h2) (cell_oFn hB1.out.h1) (cell_oFn hB1.out.h2)).mono ?_
  rintro e w2 ⟨rfl, hb2⟩
  have hB2 : Hid (Box3 w w2) := hB1.out.on hb2
  clear hB1 hb2
  have k0 := cell_of_heap hB2.out.h0 0
  have k1 := cell_of_heap hB2.out.h0 1
  have k2 := cell_of_heap hB2.out.h0 2
  have k3 := cell_of_heap hB2.out.h0 3
  simp at k0 k1 k2 k3
  have f0 := hB2.out.fro
  go_wp2
  exact bodyPost_ret (v := .tuple #[tokV 1 (s.extract 0 n) 0 0, .int .i64 ((n : Int))]) (by simp [results, Tryz.results102, go_sem, k0, k1, k2, k3, tokV]) rfl ⟨rfl, hB2.out.low4 _ _ _ _⟩

def unB (s : ByteArray) : ByteArray := bA (trimPrefix s.data.toList [45])
theorem unB_le (s : ByteArray) : (unB s).size ≤ s.size := by
  unfold unB; rw [bA_size, size_eq s]; exact trim_le _ _
theorem trim45 (s : ByteArray) (W : World) : Calls Tryz.prog 138 #[.string s, .string ⟨#[45]⟩] W fun e w' => e = .returned (.string (unB s)) ∧ w' = W := Tryz.strings_TrimPrefix s ⟨#[45]⟩ W
set_option maxHeartbeats 4000000 in
theorem first_num (s : ByteArray) (w : World) (hs : s.size ≤ maxLen) (h : runL smR s.data.toList = 0) (hd : 0 < runL dgR (unB s).data.toList) :
    Calls Tryz.prog 102 #[.string s] w fun e w' => e = .returned (.tuple #[tokV 2 (s.extract 0 (runL dgR (unB s).data.toList + (s.size - (unB s).size))) 0 0, .int .i64 ((runL dgR (unB s).data.toList + (s.size - (unB s).size) : Nat) : Int)]) ∧ Below w.heap.size w w' := by
  have H1 := mkH (run_small s hs)
  have hu := unB_le s
  have H2 := mkH (run_digit (unB s) (Nat.le_trans hu hs))
  have H4 := mkH (trim45 s)
  have hn := runL_le dgR (unB s).data.toList
  rw [← size_eq] at hn
  unfold maxLen at hs
  rw [h] at H1
  clear h
  generalize runL dgR (unB s).data.toList = n at *
  generalize unB s = u at *
  obtain ⟨k, hk⟩ : ∃ k, n + (s.size - u.size) = k := ⟨_, rfl⟩
  rw [hk]
  have c0 : (0 : Int) < (n : Int) := by omega
  have c1 : (0 : Int) ≤ (k : Int) := by omega
  have c2 : (k : Int) ≤ (s.size : Int) := by omega
  have c3 : (n : Int) + ((s.size : Int) - (u.size : Int)) = (k : Int) := by omega
  go_enter Tryz.func102, Tryz.ntmps102
  go_wp2_with fail
  refine (H1.out _).mono ?_
  rintro e w1 ⟨rfl, hb1⟩
  have hB1 : Hid (Box3 w w1) := (Box3.start w).on hb1
  clear hb1
  have e5 := cell_oFn hB1.out.h2
  go_wp2_with (first | (go_at_call 138; refine (H4.out _).mono ?_; rintro e w2 ⟨rfl, rfl⟩))
  refine (H2.out _).mono ?_
  rintro e w2 ⟨rfl, hb2⟩
  have hB2 : Hid (Box3 w w2) := hB1.out.on hb2
  clear hB1 hb2 e5
  have k0 := cell_of_heap hB2.out.h0 0
  have k1 := cell_of_heap hB2.out.h0 1
  have k2 := cell_of_heap hB2.out.h0 2
  have k3 := cell_of_heap hB2.out.h0 3
  simp at k0 k1 k2 k3
  have f0 := hB2.out.fro
  go_wp2
  exact bodyPost_ret (v := .tuple #[tokV 2 (s.extract 0 k) 0 0, .int .i64 ((k : Int))]) (by simp [results, Tryz.results102, go_sem, k0, k1, k2, k3, tokV]) rfl ⟨rfl, hB2.out.low4 _ _ _ _⟩

theorem cut1_le (c : UInt8) (l : List UInt8) : (cutL c l).1.length ≤ l.length := by have := cutL_le c l; omega
theorem quR_le (l : List UInt8) : (quR l).length ≤ l.length := Nat.le_trans (cut1_le _ _) (trim_le _ _)
set_option maxHeartbeats 4000000 in
theorem first_text (s : ByteArray) (w : World) (hs : s.size ≤ 1000000) (h : runL smR s.data.toList = 0) (hd : runL dgR (unB s).data.toList = 0) (hq : quB s.data.toList = true) :
    Calls Tryz.prog 102 #[.string s] w fun e w' => e = .returned (.tuple #[tokV 3 (bA (quR s.data.toList)) 0 0, .int .i64 (((quR s.data.toList).length + 2 : Nat) : Int)]) ∧ Below w.heap.size w w' := by
  have hs' : s.size ≤ maxLen := by unfold maxLen; omega
  have H1 := mkH (run_small s hs')
  have hu := unB_le s
  have H2 := mkH (run_digit (unB s) (Nat.le_trans hu hs'))
  have H4 := mkH (trim45 s)
  have H5 := mkH (fun W => quoted_any s W hs')
  have hz : (bA (quR s.data.toList)).size = (quR s.data.toList).length := bA_size
  have hl := quR_le s.data.toList
  rw [← size_eq] at hl
  rw [h] at H1; rw [hd] at H2; rw [hq] at H5
  clear h hd hq hs'
  generalize unB s = u at *
  generalize bA (quR s.data.toList) = t at *
  generalize (quR s.data.toList).length = n at *
  have c3 : ((t.size : Int) + 2) = ((n + 2 : Nat) : Int) := by omega
  go_enter Tryz.func102, Tryz.ntmps102
  go_wp2_with fail
  refine (H1.out _).mono ?_
  rintro e w1 ⟨rfl, hb1⟩
  have hB1 : Hid (Box3 w w1) := (Box3.start w).on hb1
  clear hb1
  have e5 := cell_oFn hB1.out.h2
  go_wp2_with (first | (go_at_call 138; refine (H4.out _).mono ?_; rintro e w2 ⟨rfl, rfl⟩))
  refine (H2.out _).mono ?_
  rintro e w2 ⟨rfl, hb2⟩
  have hB2 : Hid (Box3 w w2) := hB1.out.on hb2
  clear hB1 hb2 e5
  go_wp2_with fail
  refine (H5.out _).mono ?_
  rintro e w3 ⟨rfl, hb3⟩
  have hB3 : Hid (Box3 w w3) := hB2.out.on hb3
  clear hB2 hb3
  have k0 := cell_of_heap hB3.out.h0 0
  have k1 := cell_of_heap hB3.out.h0 1
  have k2 := cell_of_heap hB3.out.h0 2
  have k3 := cell_of_heap hB3.out.h0 3
  simp at k0 k1 k2 k3
  have f0 := hB3.out.fro
  go_wp2
  rw [← hz]
  exact bodyPost_ret (v := .tuple #[tokV 3 t 0 0, .int .i64 ((t.size : Int) + 2)]) (by simp [results, Tryz.results102, go_sem, k0, k1, k2, k3, tokV]) rfl ⟨by rw [Int.natCast_add]; rfl, hB3.out.low4 _ _ _ _⟩
end Go.Proofs.YtlnkbhbpkmnkaaaGreatDoor
