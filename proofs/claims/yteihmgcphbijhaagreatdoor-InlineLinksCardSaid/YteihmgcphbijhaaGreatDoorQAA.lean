/- Texts joined: Shelf Base IlP EmP Asc RepairB Runes FlkP. -/
import Derived.Shelf.Strings.Builder1
import Derived.Shelf.Strings.Builder2
import Derived.Shelf.Small.Utf8
import Derived.Shelf.Small.Strs
import Derived.Shelf.Small.Wraps
import Derived.Shelf.Strings.BuilderF
import Derived.Shelf.Strings.BuilderK
import Derived.Shelf.Strings.BuilderRune
import Derived.Shelf.Utf8.AppendRune
import Derived.Shelf.Utf8.AppendRunePlain
import Derived.Shelf.Utf8.RuneCount
import Derived.Shelf.Strings.Builder2Cap
import Derived.Shelf.Strconv.Atoi
import Derived.Shelf.Strconv.Itoa0
import Derived.Shelf.Strconv.Itoa1
import Derived.Shelf.LaysM
import Derived.Shelf.Strconv.Itoa2
import Derived.Shelf.Strconv.Itoa3
import Derived.Shelf.Strconv.AtoiErrFast
import Derived.Shelf.Strconv.ParseIntEmpty
import Derived.Shelf.Strconv.AtoiFail
import Derived.Shelf.Strconv.Clone
import Derived.Shelf.Strconv.SyntaxError
import Derived.Shelf.LaysC
import Derived.Shelf.Strconv.ToError
import Derived.Shelf.Strconv.AtoiErr
import Derived.Shelf.Strconv.ErrVar
import Derived.Shelf.Strconv.Lower
import Derived.Shelf.Strconv.ParseUint10
import Derived.Shelf.Strconv.ParseUint10Empty
import Derived.Shelf.Strconv.ParseUint10Any
import Derived.Shelf.Strconv.ParseInt10
import Derived.Shelf.Strconv.AtoiLong
import Derived.Shelf.Strconv.AtoiInnerAll
import Derived.Shelf.Strconv.RangeError
import Derived.Shelf.Strconv.ToErrorRange
import Derived.Shelf.Strconv.AtoiAll
import Derived.Shelf.Strconv.ErrVarAll
import Derived.Shelf.Strconv.ParseUintEmpty
import Derived.Shelf.Strconv.ParseUint10b64
import Derived.Shelf.Strconv.ParseUint10b32
import Derived.Shelf.Strconv.ParseUint10b16
import Derived.Shelf.Strconv.ParseUint10b8
import Derived.Shelf.Strconv.ParseUint10At
import Derived.Shelf.Strconv.ParseInt10At64
import Derived.Shelf.Strconv.ParseInt10At32
import Derived.Shelf.Strconv.ParseInt10At16
import Derived.Shelf.Strconv.ParseInt10At8
import Derived.Shelf.Strconv.ParseInt10All
import Derived.Shelf.Strings.Search1
import Derived.Shelf.Strings.Search2
import Derived.Shelf.Strings.Search3
import Derived.Shelf.Strings.Count
import Derived.Shelf.Strings.Shaped
import Derived.Shelf.GgClosure.StringsIndexFunc
import Derived.Ground.GgwProg
import Derived.Shelf.GgClosure.StringsIndexFuncTop
import Derived.Shelf.GgClosure.StringsRunes
import Derived.Shelf.Strings.Prefix
import Derived.Shelf.Strings.Split
import Derived.Shelf.Strings.Replace
import Derived.Shelf.Strings.SplitShaped
import Derived.Shelf.Unicode.Decode
import Derived.Shelf.Strings.Runes
import Derived.Shelf.Strings.RuneCount
import Derived.Shelf.Strings.IndexAny
import Derived.Shelf.Strings.AsciiSet
import Derived.Shelf.Strings.IndexAnyAll
import Derived.Shelf.Bits.Mul64
import Derived.Shelf.Strings.Repeat
import Derived.Shelf.Unicode.DecodeSlow
import Derived.Shelf.Unicode.DecodeAny
import Derived.Shelf.Strings.FuncGrows
import Derived.Shelf.Strings.BuilderCap
import Derived.Ground.Names2Prog
import Derived.Shelf.Slices.SearchI
import Derived.Shelf.Slices.Empties
import Derived.Ground.SlgfProg
import Derived.Shelf.SlicesE.IndexFunc
import Derived.Shelf.SlicesE.DeleteFunc
import Derived.Test.YteihmgcphbijhaaGreatDoorProg
import Derived.Test.YteihmgcphbijhaaGreatDoorRows
import Derived.WalkKit
import Derived.ProofKit
import Derived.OpenShut
import Derived.ShutString
import Derived.ChangeOld
import Derived.Below
import Derived.SliceStrings
import Derived.Deep.Grids
import Derived.BigCall
import Derived.BigQuiet
import Derived.Deep.QuietTactic
import Derived.Lib.Hide
import Derived.Lib.OthersKept
import Derived.Lib.RuneBytes
import Derived.Laws.RangeAny
import Derived.Laws.AppendOwn
import Derived.RegionTactic
import Derived.KernelRfl
import Derived.Laws.AppendOwnNone
import Derived.Deep.AppendLies
import Derived.Deep.RegionLaw
namespace Go.Proofs
open Go.Shelf
def Tryz.lays170_ren : Go.Shelf.Ren := ⟨fun | 170 => 120 | n => n, fun | 70 => 36 | 3 => 3 | 0 => 0 | 72 => 39 | 37 => 37 | 5 => 5 | n => n, fun | n => n⟩
theorem Tryz.lays170 : Go.Proofs.Lays.n170 Tryz.prog Tryz.lays170_ren := {
  mixed := by kernel_rfl
  f170 := Tryz.func120.trans (congrArg some (by kernel_rfl))
  t0 := Tryz.underlying0
  a0 := Tryz.isAgg0
  z0 := Tryz.sizeOf0
  v0 := Tryz.zeroValue0
  t3 := Tryz.underlying3
  a3 := Tryz.isAgg3
  z3 := Tryz.sizeOf3
  v3 := Tryz.zeroValue3
  t37 := Tryz.underlying37
  a37 := Tryz.isAgg37
  z37 := Tryz.sizeOf37
  v37 := Tryz.zeroValue37
  t70 := Tryz.underlying36
  a70 := Tryz.isAgg36
  z70 := Tryz.sizeOf36
  v70 := Tryz.zeroValue36
  t72 := Tryz.underlying39
  a72 := Tryz.isAgg39
  z72 := Tryz.sizeOf39
  v72 := Tryz.zeroValue39 }
def Tryz.lays167_ren : Go.Shelf.Ren := ⟨fun | 167 => 145 | 240 => 30 | 276 => 61 | n => n, fun | 70 => 36 | 5 => 5 | 75 => 54 | 0 => 0 | 72 => 39 | 37 => 37 | 4 => 4 | 164 => 136 | 80 => 42 | 9 => 9 | 20 => 20 | n => n, fun | n => n⟩
theorem Tryz.lays167 : Go.Proofs.Lays.n167 Tryz.prog Tryz.lays167_ren := {
  mixed := by kernel_rfl
  f167 := Tryz.func145.trans (congrArg some (by kernel_rfl))
  f240 := Tryz.func30.trans (congrArg some (by kernel_rfl))
  f276 := Tryz.func61.trans (congrArg some (by kernel_rfl))
  t0 := Tryz.underlying0
  a0 := Tryz.isAgg0
  z0 := Tryz.sizeOf0
  v0 := Tryz.zeroValue0
  t4 := Tryz.underlying4
  a4 := Tryz.isAgg4
  z4 := Tryz.sizeOf4
  v4 := Tryz.zeroValue4
  t5 := Tryz.underlying5
  a5 := Tryz.isAgg5
  z5 := Tryz.sizeOf5
  v5 := Tryz.zeroValue5
  t9 := Tryz.underlying9
  a9 := Tryz.isAgg9
  z9 := Tryz.sizeOf9
  v9 := Tryz.zeroValue9
  t20 := Tryz.underlying20
  a20 := Tryz.isAgg20
  z20 := Tryz.sizeOf20
  v20 := Tryz.zeroValue20
  t37 := Tryz.underlying37
  a37 := Tryz.isAgg37
  z37 := Tryz.sizeOf37
  v37 := Tryz.zeroValue37
  t70 := Tryz.underlying36
  a70 := Tryz.isAgg36
  z70 := Tryz.sizeOf36
  v70 := Tryz.zeroValue36
  t72 := Tryz.underlying39
  a72 := Tryz.isAgg39
  z72 := Tryz.sizeOf39
  v72 := Tryz.zeroValue39
  t75 := Tryz.underlying54
  a75 := Tryz.isAgg54
  z75 := Tryz.sizeOf54
  v75 := Tryz.zeroValue54
  t164 := Tryz.underlying136
  a164 := Tryz.isAgg136
  z164 := Tryz.sizeOf136
  v164 := Tryz.zeroValue136 }
theorem Tryz.Builder_Extra_167 : Builder.Extra Tryz.prog Tryz.lays167_ren := {
  sizeBuilder := by kernel_rfl
  liesBuilder := by kernel_rfl
  t5 := Tryz.underlying5
  a5 := Tryz.isAgg5
  z5 := Tryz.sizeOf5
  v5 := Tryz.zeroValue5
  infoByte := by kernel_rfl
  cellsByte := by kernel_rfl
  sizeByte := by kernel_rfl
  neB5 := by decide }
def Tryz.lays166_ren : Go.Shelf.Ren := ⟨fun | 166 => 16 | 240 => 30 | 276 => 61 | n => n, fun | 70 => 36 | 9 => 9 | 3 => 3 | 75 => 54 | 0 => 0 | 72 => 39 | 37 => 37 | 4 => 4 | 164 => 136 | 80 => 42 | 5 => 5 | 20 => 20 | n => n, fun | n => n⟩
theorem Tryz.lays166 : Go.Proofs.Lays.n166 Tryz.prog Tryz.lays166_ren := {
  mixed := by kernel_rfl
  f166 := Tryz.func16.trans (congrArg some (by kernel_rfl))
  f240 := Tryz.func30.trans (congrArg some (by kernel_rfl))
  f276 := Tryz.func61.trans (congrArg some (by kernel_rfl))
  t0 := Tryz.underlying0
  a0 := Tryz.isAgg0
  z0 := Tryz.sizeOf0
  v0 := Tryz.zeroValue0
  t3 := Tryz.underlying3
  a3 := Tryz.isAgg3
  z3 := Tryz.sizeOf3
  v3 := Tryz.zeroValue3
  t4 := Tryz.underlying4
  a4 := Tryz.isAgg4
  z4 := Tryz.sizeOf4
  v4 := Tryz.zeroValue4
  t9 := Tryz.underlying9
  a9 := Tryz.isAgg9
  z9 := Tryz.sizeOf9
  v9 := Tryz.zeroValue9
  t20 := Tryz.underlying20
  a20 := Tryz.isAgg20
  z20 := Tryz.sizeOf20
  v20 := Tryz.zeroValue20
  t37 := Tryz.underlying37
  a37 := Tryz.isAgg37
  z37 := Tryz.sizeOf37
  v37 := Tryz.zeroValue37
  t70 := Tryz.underlying36
  a70 := Tryz.isAgg36
  z70 := Tryz.sizeOf36
  v70 := Tryz.zeroValue36
  t72 := Tryz.underlying39
  a72 := Tryz.isAgg39
  z72 := Tryz.sizeOf39
  v72 := Tryz.zeroValue39
  t75 := Tryz.underlying54
  a75 := Tryz.isAgg54
  z75 := Tryz.sizeOf54
  v75 := Tryz.zeroValue54
  t164 := Tryz.underlying136
  a164 := Tryz.isAgg136
  z164 := Tryz.sizeOf136
  v164 := Tryz.zeroValue136 }
theorem Tryz.Builder_Extra_166 : Builder.Extra Tryz.prog Tryz.lays166_ren := {
  sizeBuilder := by kernel_rfl
  liesBuilder := by kernel_rfl
  t5 := Tryz.underlying5
  a5 := Tryz.isAgg5
  z5 := Tryz.sizeOf5
  v5 := Tryz.zeroValue5
  infoByte := by kernel_rfl
  cellsByte := by kernel_rfl
  sizeByte := by kernel_rfl
  neB5 := by decide }
def Tryz.lays169_ren : Go.Shelf.Ren := ⟨fun | 169 => 11 | n => n, fun | 70 => 36 | 9 => 9 | 0 => 0 | 72 => 39 | 37 => 37 | 127 => 57 | 3 => 3 | 5 => 5 | n => n, fun | n => n⟩
theorem Tryz.lays169 : Go.Proofs.Lays.n169 Tryz.prog Tryz.lays169_ren := {
  mixed := by kernel_rfl
  f169 := Tryz.func11.trans (congrArg some (by kernel_rfl))
  t0 := Tryz.underlying0
  a0 := Tryz.isAgg0
  z0 := Tryz.sizeOf0
  v0 := Tryz.zeroValue0
  t3 := Tryz.underlying3
  a3 := Tryz.isAgg3
  z3 := Tryz.sizeOf3
  v3 := Tryz.zeroValue3
  t9 := Tryz.underlying9
  a9 := Tryz.isAgg9
  z9 := Tryz.sizeOf9
  v9 := Tryz.zeroValue9
  t37 := Tryz.underlying37
  a37 := Tryz.isAgg37
  z37 := Tryz.sizeOf37
  v37 := Tryz.zeroValue37
  t70 := Tryz.underlying36
  a70 := Tryz.isAgg36
  z70 := Tryz.sizeOf36
  v70 := Tryz.zeroValue36
  t72 := Tryz.underlying39
  a72 := Tryz.isAgg39
  z72 := Tryz.sizeOf39
  v72 := Tryz.zeroValue39
  t127 := Tryz.underlying57
  a127 := Tryz.isAgg57
  z127 := Tryz.sizeOf57
  v127 := Tryz.zeroValue57 }
theorem Tryz.Builder_Extra_169 : Builder.Extra Tryz.prog Tryz.lays169_ren := {
  sizeBuilder := by kernel_rfl
  liesBuilder := by kernel_rfl
  t5 := Tryz.underlying5
  a5 := Tryz.isAgg5
  z5 := Tryz.sizeOf5
  v5 := Tryz.zeroValue5
  infoByte := by kernel_rfl
  cellsByte := by kernel_rfl
  sizeByte := by kernel_rfl
  neB5 := by decide }
def Tryz.lays119_ren : Go.Shelf.Ren := ⟨fun | 119 => 156 | n => n, fun | 21 => 21 | 4 => 4 | n => n, fun | n => n⟩
theorem Tryz.lays119 : Go.Proofs.Lays.n119 Tryz.prog Tryz.lays119_ren := {
  mixed := by kernel_rfl
  f119 := Tryz.func156.trans (congrArg some (by kernel_rfl))
  t4 := Tryz.underlying4
  a4 := Tryz.isAgg4
  z4 := Tryz.sizeOf4
  v4 := Tryz.zeroValue4
  t21 := Tryz.underlying21
  a21 := Tryz.isAgg21
  z21 := Tryz.sizeOf21
  v21 := Tryz.zeroValue21 }
theorem Tryz.utf8_ValidRune (r : Int) (w : World) :
    Calls Tryz.prog 156 #[.int .i32 r] w fun e w' => e = .returned (.bool (Lib.validRune r)) ∧ w' = w := Any.utf8_ValidRune Tryz.lays119 r w
def Tryz.lays137_ren : Go.Shelf.Ren := ⟨fun | 137 => 78 | 217 => 108 | 266 => 133 | n => n, fun | 9 => 9 | 5 => 5 | 3 => 3 | n => n, fun | n => n⟩
theorem Tryz.lays137 : Go.Proofs.Lays.n137 Tryz.prog Tryz.lays137_ren := {
  mixed := by kernel_rfl
  f137 := Tryz.func78.trans (congrArg some (by kernel_rfl))
  f217 := Tryz.func108.trans (congrArg some (by kernel_rfl))
  f266 := Tryz.func133.trans (congrArg some (by kernel_rfl))
  t3 := Tryz.underlying3
  a3 := Tryz.isAgg3
  z3 := Tryz.sizeOf3
  v3 := Tryz.zeroValue3
  t5 := Tryz.underlying5
  a5 := Tryz.isAgg5
  z5 := Tryz.sizeOf5
  v5 := Tryz.zeroValue5
  t9 := Tryz.underlying9
  a9 := Tryz.isAgg9
  z9 := Tryz.sizeOf9
  v9 := Tryz.zeroValue9 }
open Go.RowKit in
theorem Tryz.strings_IndexByte (s : ByteArray) (c : Int) (w : World) :
    Calls Tryz.prog 78 #[.string s, .int .u8 c] w fun e w' => e = .returned (.int .i64 (Lib.indexByte s.data.toList c.toNat.toUInt8)) ∧ w' = w := Any.strings_IndexByte Tryz.lays137 s c w
def Tryz.lays103_ren : Go.Shelf.Ren := ⟨fun | 103 => 109 | 210 => 134 | 206 => 107 | n => n, fun | 9 => 9 | 4 => 4 | 24 => 168 | 3 => 3 | n => n, fun | n => n⟩
theorem Tryz.lays103 : Go.Proofs.Lays.n103 Tryz.prog Tryz.lays103_ren := {
  mixed := by kernel_rfl
  f103 := Tryz.func109.trans (congrArg some (by kernel_rfl))
  f206 := Tryz.func107.trans (congrArg some (by kernel_rfl))
  f210 := Tryz.func134.trans (congrArg some (by kernel_rfl))
  t3 := Tryz.underlying3
  a3 := Tryz.isAgg3
  z3 := Tryz.sizeOf3
  v3 := Tryz.zeroValue3
  t4 := Tryz.underlying4
  a4 := Tryz.isAgg4
  z4 := Tryz.sizeOf4
  v4 := Tryz.zeroValue4
  t9 := Tryz.underlying9
  a9 := Tryz.isAgg9
  z9 := Tryz.sizeOf9
  v9 := Tryz.zeroValue9
  t24 := Tryz.underlying168
  a24 := Tryz.isAgg168
  z24 := Tryz.sizeOf168
  v24 := Tryz.zeroValue168 }
open Go.RowKit in
theorem Tryz.strings_CutPrefix (s p : ByteArray) (w : World) :
    Calls Tryz.prog 109 #[.string s, .string p] w fun e w' => e = .returned (.tuple #[.string ⟨(Lib.trimPrefix s.data.toList p.data.toList).toArray⟩, .bool (Lib.hasPrefix s.data.toList p.data.toList)]) ∧ w' = w := Any.strings_CutPrefix Tryz.lays103 s p w
open Go.RowKit in
theorem Tryz.Builder_Len_f (B b : Nat) (bs : List Value) (w : World) (h : Lib.IsBuilderF 39 5 B b bs w) :
    Calls Tryz.prog 120 #[.pointer (some ⟨b, 0, none⟩)] w fun e w' => e = .returned (.int .i64 bs.length) ∧ w' = w := Any.Builder_Len_f Tryz.lays170 B b bs w h
open Go.RowKit in
theorem Tryz.Builder_WriteByte_k (B b : Nat) (bs : List Value) (c : Int) (w : World) (h : Lib.IsBuilderF 39 5 B b bs w) (hlen : bs.length + 1 ≤ 140737488355328) (hBw : B ≤ w.heap.size) :
    Calls Tryz.prog 145 #[.pointer (some ⟨b, 0, none⟩), .int .u8 c] w fun e w' => e = .returned .nilIface ∧ (Lib.BuilderAtF 39 5 B b (.pointer (some ⟨b, 0, none⟩)) (bs ++ [.int .u8 c]) w' ∧ Below B w w' ∧ Lib.OthersKept 5 (some b) w w') := Any.Builder_WriteByte_k Tryz.lays167 Tryz.Builder_Extra_167 B b bs c w h hlen hBw
open Go.RowKit in
theorem Tryz.Builder_WriteString_k (B b : Nat) (bs : List Value) (s : ByteArray) (w : World) (h : Lib.IsBuilderF 39 5 B b bs w) (hlen : bs.length + s.size ≤ 140737488355328) (hBw : B ≤ w.heap.size) :
    Calls Tryz.prog 16 #[.pointer (some ⟨b, 0, none⟩), .string s] w fun e w' => e = .returned (.tuple #[.int .i64 s.size, .nilIface]) ∧ (Lib.BuilderAtF 39 5 B b (.pointer (some ⟨b, 0, none⟩)) (bs ++ Lib.strCells s) w' ∧ Below B w w' ∧ Lib.OthersKept 5 (some b) w w') := Any.Builder_WriteString_k Tryz.lays166 Tryz.Builder_Extra_166 B b bs s w h hlen hBw
open Go.RowKit in
theorem Tryz.Builder_String_any_k (B b : Nat) (l : List UInt8) (w : World) (h : Lib.IsBuilderF 39 5 B b (Lib.byteCells l) w) (hBw : B ≤ w.heap.size) :
    Calls Tryz.prog 11 #[.pointer (some ⟨b, 0, none⟩)] w fun e w' => e = .returned (.string ⟨l.toArray⟩) ∧ (Lib.IsBuilderF 39 5 B b (Lib.byteCells l) w' ∧ Below B w w' ∧ Lib.OthersKept 5 (some b) w w') := Any.Builder_String_any_k Tryz.lays169 Tryz.Builder_Extra_169 B b l w h hBw
def Tryz.lays168_ren : Go.Shelf.Ren := ⟨fun | 168 => 147 | 240 => 30 | 242 => 169 | 276 => 61 | 278 => 180 | n => n, fun | 70 => 36 | 21 => 21 | 3 => 3 | 75 => 54 | 0 => 0 | 72 => 39 | 37 => 37 | 4 => 4 | 164 => 136 | 51 => 209 | 5 => 5 | 46 => 180 | 80 => 42 | 9 => 9 | 20 => 20 | n => n, fun | n => n⟩
theorem Tryz.lays168 : Go.Proofs.Lays.n168 Tryz.prog Tryz.lays168_ren := {
  mixed := by kernel_rfl
  f168 := Tryz.func147.trans (congrArg some (by kernel_rfl))
  f240 := Tryz.func30.trans (congrArg some (by kernel_rfl))
  f242 := Tryz.func169.trans (congrArg some (by kernel_rfl))
  f276 := Tryz.func61.trans (congrArg some (by kernel_rfl))
  f278 := Tryz.func180.trans (congrArg some (by kernel_rfl))
  t0 := Tryz.underlying0
  a0 := Tryz.isAgg0
  z0 := Tryz.sizeOf0
  v0 := Tryz.zeroValue0
  t3 := Tryz.underlying3
  a3 := Tryz.isAgg3
  z3 := Tryz.sizeOf3
  v3 := Tryz.zeroValue3
  t4 := Tryz.underlying4
  a4 := Tryz.isAgg4
  z4 := Tryz.sizeOf4
  v4 := Tryz.zeroValue4
  t5 := Tryz.underlying5
  a5 := Tryz.isAgg5
  z5 := Tryz.sizeOf5
  v5 := Tryz.zeroValue5
  t9 := Tryz.underlying9
  a9 := Tryz.isAgg9
  z9 := Tryz.sizeOf9
  v9 := Tryz.zeroValue9
  t20 := Tryz.underlying20
  a20 := Tryz.isAgg20
  z20 := Tryz.sizeOf20
  v20 := Tryz.zeroValue20
  t21 := Tryz.underlying21
  a21 := Tryz.isAgg21
  z21 := Tryz.sizeOf21
  v21 := Tryz.zeroValue21
  t37 := Tryz.underlying37
  a37 := Tryz.isAgg37
  z37 := Tryz.sizeOf37
  v37 := Tryz.zeroValue37
  t46 := Tryz.underlying180
  a46 := Tryz.isAgg180
  z46 := Tryz.sizeOf180
  v46 := Tryz.zeroValue180
  t51 := Tryz.underlying209
  a51 := Tryz.isAgg209
  z51 := Tryz.sizeOf209
  v51 := Tryz.zeroValue209
  t70 := Tryz.underlying36
  a70 := Tryz.isAgg36
  z70 := Tryz.sizeOf36
  v70 := Tryz.zeroValue36
  t72 := Tryz.underlying39
  a72 := Tryz.isAgg39
  z72 := Tryz.sizeOf39
  v72 := Tryz.zeroValue39
  t75 := Tryz.underlying54
  a75 := Tryz.isAgg54
  z75 := Tryz.sizeOf54
  v75 := Tryz.zeroValue54
  t164 := Tryz.underlying136
  a164 := Tryz.isAgg136
  z164 := Tryz.sizeOf136
  v164 := Tryz.zeroValue136 }
theorem Tryz.Builder_Extra_168 : Builder.Extra Tryz.prog Tryz.lays168_ren := {
  sizeBuilder := by kernel_rfl
  liesBuilder := by kernel_rfl
  t5 := Tryz.underlying5
  a5 := Tryz.isAgg5
  z5 := Tryz.sizeOf5
  v5 := Tryz.zeroValue5
  infoByte := by kernel_rfl
  cellsByte := by kernel_rfl
  sizeByte := by kernel_rfl
  neB5 := by decide }
open Go.RowKit in
theorem Tryz.Builder_WriteRune_k (B b : Nat) (bs : List Value) (r : Int) (hr0 : -2147483648 ≤ r) (hr1 : r ≤ 2147483647) (w : World) (h : Lib.IsBuilderF 39 5 B b bs w) (hlen : bs.length + 4 ≤ 140737488355328) (hBw : B ≤ w.heap.size) :
    Calls Tryz.prog 147 #[.pointer (some ⟨b, 0, none⟩), .int .i32 r] w fun e w' => e = .returned (.tuple #[.int .i64 (Lib.runeCells r).length, .nilIface]) ∧ (Lib.BuilderAtF 39 5 B b (.pointer (some ⟨b, 0, none⟩)) (bs ++ Lib.runeCells r) w' ∧ Below B w w' ∧ Lib.OthersKept 5 (some b) w w') := Any.Builder_WriteRune_k Tryz.lays168 Tryz.Builder_Extra_168 B b bs r hr0 hr1 w h hlen hBw
def Tryz.lays172_ren : Go.Shelf.Ren := ⟨fun | 172 => 65 | 244 => 93 | 245 => 94 | 247 => 121 | 279 => 122 | 280 => 123 | 281 => 124 | 282 => 125 | 287 => 152 | 316 => 153 | 171 => 155 | 205 => 154 | 321 => 171 | 322 => 172 | 243 => 173 | 246 => 181 | 283 => 182 | 284 => 183 | 285 => 184 | 286 => 185 | 129 => 187 | 317 => 186 | 318 => 188 | 319 => 189 | 320 => 190 | 337 => 191 | 338 => 192 | n => n, fun | 9 => 9 | 3 => 3 | 75 => 54 | 76 => 55 | 4 => 4 | 5 => 5 | 167 => 184 | 37 => 37 | 0 => 0 | 85 => 185 | 2 => 2 | 168 => 187 | 53 => 212 | 175 => 215 | 46 => 180 | 210 => 218 | 127 => 57 | 145 => 238 | 143 => 236 | 21 => 21 | 171 => 245 | 173 => 248 | 212 => 251 | 51 => 209 | 20 => 20 | 213 => 252 | 232 => 255 | 233 => 256 | 80 => 42 | n => n, fun | 15 => 2 | 16 => 3 | 17 => 7 | 18 => 8 | 19 => 9 | n => n⟩
theorem Tryz.lays172 : Go.Proofs.Lays.n172 Tryz.prog Tryz.lays172_ren := {
  mixed := by kernel_rfl
  f129 := Tryz.func187.trans (congrArg some (by kernel_rfl))
  f171 := Tryz.func155.trans (congrArg some (by kernel_rfl))
  f172 := Tryz.func65.trans (congrArg some (by kernel_rfl))
  f205 := Tryz.func154.trans (congrArg some (by kernel_rfl))
  f243 := Tryz.func173.trans (congrArg some (by kernel_rfl))
  f244 := Tryz.func93.trans (congrArg some (by kernel_rfl))
  f245 := Tryz.func94.trans (congrArg some (by kernel_rfl))
  f246 := Tryz.func181.trans (congrArg some (by kernel_rfl))
  f247 := Tryz.func121.trans (congrArg some (by kernel_rfl))
  f279 := Tryz.func122.trans (congrArg some (by kernel_rfl))
  f280 := Tryz.func123.trans (congrArg some (by kernel_rfl))
  f281 := Tryz.func124.trans (congrArg some (by kernel_rfl))
  f282 := Tryz.func125.trans (congrArg some (by kernel_rfl))
  f283 := Tryz.func182.trans (congrArg some (by kernel_rfl))
  f284 := Tryz.func183.trans (congrArg some (by kernel_rfl))
  f285 := Tryz.func184.trans (congrArg some (by kernel_rfl))
  f286 := Tryz.func185.trans (congrArg some (by kernel_rfl))
  f287 := Tryz.func152.trans (congrArg some (by kernel_rfl))
  f316 := Tryz.func153.trans (congrArg some (by kernel_rfl))
  f317 := Tryz.func186.trans (congrArg some (by kernel_rfl))
  f318 := Tryz.func188.trans (congrArg some (by kernel_rfl))
  f319 := Tryz.func189.trans (congrArg some (by kernel_rfl))
  f320 := Tryz.func190.trans (congrArg some (by kernel_rfl))
  f321 := Tryz.func171.trans (congrArg some (by kernel_rfl))
  f322 := Tryz.func172.trans (congrArg some (by kernel_rfl))
  f337 := Tryz.func191.trans (congrArg some (by kernel_rfl))
  f338 := Tryz.func192.trans (congrArg some (by kernel_rfl))
  t0 := Tryz.underlying0
  a0 := Tryz.isAgg0
  z0 := Tryz.sizeOf0
  v0 := Tryz.zeroValue0
  t2 := Tryz.underlying2
  a2 := Tryz.isAgg2
  z2 := Tryz.sizeOf2
  v2 := Tryz.zeroValue2
  t3 := Tryz.underlying3
  a3 := Tryz.isAgg3
  z3 := Tryz.sizeOf3
  v3 := Tryz.zeroValue3
  t4 := Tryz.underlying4
  a4 := Tryz.isAgg4
  z4 := Tryz.sizeOf4
  v4 := Tryz.zeroValue4
  t5 := Tryz.underlying5
  a5 := Tryz.isAgg5
  z5 := Tryz.sizeOf5
  v5 := Tryz.zeroValue5
  t9 := Tryz.underlying9
  a9 := Tryz.isAgg9
  z9 := Tryz.sizeOf9
  v9 := Tryz.zeroValue9
  t20 := Tryz.underlying20
  a20 := Tryz.isAgg20
  z20 := Tryz.sizeOf20
  v20 := Tryz.zeroValue20
  t21 := Tryz.underlying21
  a21 := Tryz.isAgg21
  z21 := Tryz.sizeOf21
  v21 := Tryz.zeroValue21
  t37 := Tryz.underlying37
  a37 := Tryz.isAgg37
  z37 := Tryz.sizeOf37
  v37 := Tryz.zeroValue37
  t46 := Tryz.underlying180
  a46 := Tryz.isAgg180
  z46 := Tryz.sizeOf180
  v46 := Tryz.zeroValue180
  t51 := Tryz.underlying209
  a51 := Tryz.isAgg209
  z51 := Tryz.sizeOf209
  v51 := Tryz.zeroValue209
  t53 := Tryz.underlying212
  a53 := Tryz.isAgg212
  z53 := Tryz.sizeOf212
  v53 := Tryz.zeroValue212
  t75 := Tryz.underlying54
  a75 := Tryz.isAgg54
  z75 := Tryz.sizeOf54
  v75 := Tryz.zeroValue54
  t76 := Tryz.underlying55
  a76 := Tryz.isAgg55
  z76 := Tryz.sizeOf55
  v76 := Tryz.zeroValue55
  t85 := Tryz.underlying185
  a85 := Tryz.isAgg185
  z85 := Tryz.sizeOf185
  v85 := Tryz.zeroValue185
  t127 := Tryz.underlying57
  a127 := Tryz.isAgg57
  z127 := Tryz.sizeOf57
  v127 := Tryz.zeroValue57
  t143 := Tryz.underlying236
  a143 := Tryz.isAgg236
  z143 := Tryz.sizeOf236
  v143 := Tryz.zeroValue236
  t145 := Tryz.underlying238
  a145 := Tryz.isAgg238
  z145 := Tryz.sizeOf238
  v145 := Tryz.zeroValue238
  t167 := Tryz.underlying184
  a167 := Tryz.isAgg184
  z167 := Tryz.sizeOf184
  v167 := Tryz.zeroValue184
  t168 := Tryz.underlying187
  a168 := Tryz.isAgg187
  z168 := Tryz.sizeOf187
  v168 := Tryz.zeroValue187
  t171 := Tryz.underlying245
  a171 := Tryz.isAgg245
  z171 := Tryz.sizeOf245
  v171 := Tryz.zeroValue245
  t173 := Tryz.underlying248
  a173 := Tryz.isAgg248
  z173 := Tryz.sizeOf248
  v173 := Tryz.zeroValue248
  t175 := Tryz.underlying215
  a175 := Tryz.isAgg215
  z175 := Tryz.sizeOf215
  v175 := Tryz.zeroValue215
  t210 := Tryz.underlying218
  a210 := Tryz.isAgg218
  z210 := Tryz.sizeOf218
  v210 := Tryz.zeroValue218
  t212 := Tryz.underlying251
  a212 := Tryz.isAgg251
  z212 := Tryz.sizeOf251
  v212 := Tryz.zeroValue251
  t213 := Tryz.underlying252
  a213 := Tryz.isAgg252
  z213 := Tryz.sizeOf252
  t232 := Tryz.underlying255
  a232 := Tryz.isAgg255
  z232 := Tryz.sizeOf255
  v232 := Tryz.zeroValue255
  t233 := Tryz.underlying256
  a233 := Tryz.isAgg256
  z233 := Tryz.sizeOf256
  v233 := Tryz.zeroValue256
  g15 := by kernel_rfl
  g16 := by kernel_rfl
  g17 := by kernel_rfl
  g18 := by kernel_rfl
  g19 := by kernel_rfl }
open Go.RowKit in
theorem Tryz.strconv_Atoi (s : ByteArray) (n : Int) (hl : s.size ≤ 18) (h : Lib.atoi s.data.toList = some n) (w : World) :
    Calls Tryz.prog 65 #[.string s] w fun e w' => e = .returned (.tuple #[.int .i64 n, .nilIface]) ∧ ∃ t, w' = Lib.bytesWorld w 5 t := Any.strconv_Atoi Tryz.lays172 s n hl h w
def Tryz.lays143_ren : Go.Shelf.Ren := ⟨fun | 143 => 69 | 219 => 98 | 217 => 108 | 225 => 129 | 224 => 130 | 267 => 131 | 266 => 133 | 314 => 157 | n => n, fun | 9 => 9 | 3 => 3 | 4 => 4 | 5 => 5 | 46 => 180 | 146 => 210 | 51 => 209 | n => n, fun | 1 => 1 | n => n⟩
theorem Tryz.lays143 : Go.Proofs.Lays.n143 Tryz.prog Tryz.lays143_ren := {
  mixed := by kernel_rfl
  f143 := Tryz.func69.trans (congrArg some (by kernel_rfl))
  f217 := Tryz.func108.trans (congrArg some (by kernel_rfl))
  f219 := Tryz.func98.trans (congrArg some (by kernel_rfl))
  f224 := Tryz.func130.trans (congrArg some (by kernel_rfl))
  f225 := Tryz.func129.trans (congrArg some (by kernel_rfl))
  f266 := Tryz.func133.trans (congrArg some (by kernel_rfl))
  f267 := Tryz.func131.trans (congrArg some (by kernel_rfl))
  f314 := Tryz.func157.trans (congrArg some (by kernel_rfl))
  t3 := Tryz.underlying3
  a3 := Tryz.isAgg3
  z3 := Tryz.sizeOf3
  v3 := Tryz.zeroValue3
  t4 := Tryz.underlying4
  a4 := Tryz.isAgg4
  z4 := Tryz.sizeOf4
  v4 := Tryz.zeroValue4
  t5 := Tryz.underlying5
  a5 := Tryz.isAgg5
  z5 := Tryz.sizeOf5
  v5 := Tryz.zeroValue5
  t9 := Tryz.underlying9
  a9 := Tryz.isAgg9
  z9 := Tryz.sizeOf9
  v9 := Tryz.zeroValue9
  t46 := Tryz.underlying180
  a46 := Tryz.isAgg180
  z46 := Tryz.sizeOf180
  v46 := Tryz.zeroValue180
  t51 := Tryz.underlying209
  a51 := Tryz.isAgg209
  z51 := Tryz.sizeOf209
  v51 := Tryz.zeroValue209
  t146 := Tryz.underlying210
  a146 := Tryz.isAgg210
  z146 := Tryz.sizeOf210
  v146 := Tryz.zeroValue210
  g1 := by kernel_rfl }
open Go.RowKit Go.Lib in
theorem Tryz.strings_Index (s sub : ByteArray) (m : Int) (w : World) (hs : s.size < 4294967281) (hm : w.cell? ⟨1, 0, none⟩ = some (.int .i64 m)) :
    Calls Tryz.prog 69 #[.string s, .string sub] w fun e w' => e = .returned (.int .i64 (Lib.index s.data.toList sub.data.toList)) ∧ w' = w := Any.strings_Index Tryz.lays143 s sub m w hs hm
def Tryz.laysGw15_ren : Go.Shelf.Ren := ⟨fun | 15 => 136 | 20 => 160 | n => n, fun | 9 => 9 | 23 => 106 | 3 => 3 | 4 => 4 | 0 => 0 | 21 => 21 | n => n, fun | n => n⟩
theorem Tryz.laysGw15 : Go.Proofs.LaysGw.n15 Tryz.prog Tryz.laysGw15_ren := {
  mixed := by kernel_rfl
  f15 := Tryz.func136.trans (congrArg some (by kernel_rfl))
  f20 := Tryz.func160.trans (congrArg some (by kernel_rfl))
  t0 := Tryz.underlying0
  a0 := Tryz.isAgg0
  z0 := Tryz.sizeOf0
  v0 := Tryz.zeroValue0
  i0 := by kernel_rfl
  t3 := Tryz.underlying3
  a3 := Tryz.isAgg3
  z3 := Tryz.sizeOf3
  v3 := Tryz.zeroValue3
  i3 := by kernel_rfl
  t4 := Tryz.underlying4
  a4 := Tryz.isAgg4
  z4 := Tryz.sizeOf4
  v4 := Tryz.zeroValue4
  i4 := by kernel_rfl
  t9 := Tryz.underlying9
  a9 := Tryz.isAgg9
  z9 := Tryz.sizeOf9
  v9 := Tryz.zeroValue9
  i9 := by kernel_rfl
  t21 := Tryz.underlying21
  a21 := Tryz.isAgg21
  z21 := Tryz.sizeOf21
  v21 := Tryz.zeroValue21
  i21 := by kernel_rfl
  t23 := Tryz.underlying106
  a23 := Tryz.isAgg106
  z23 := Tryz.sizeOf106
  v23 := Tryz.zeroValue106
  i23 := by kernel_rfl }
open Go.RowKit Go.Lib in
theorem Tryz.strings_IndexFunc (g : Nat) (lb : Array Value) (eg : ∀ args w, (callFunc g args).run Tryz.prog w = .ok (.enter g args) w) (p : Nat → Bool) (s : ByteArray) (w : World) (hp : PredAt Tryz.prog g lb encR p w) :
    Calls Tryz.prog 136 #[.string s, .func (.func g) #[] lb] w fun e w' => e = .returned (.int .i64 (Lib.idxFunc p true s)) ∧ Below w.heap.size w w' := Any.strings_IndexFunc Tryz.laysGw15 g lb eg p s w hp
def Tryz.lays99_ren : Go.Shelf.Ren := ⟨fun | 99 => 76 | 206 => 107 | n => n, fun | 9 => 9 | 4 => 4 | 3 => 3 | n => n, fun | n => n⟩
theorem Tryz.lays99 : Go.Proofs.Lays.n99 Tryz.prog Tryz.lays99_ren := {
  mixed := by kernel_rfl
  f99 := Tryz.func76.trans (congrArg some (by kernel_rfl))
  f206 := Tryz.func107.trans (congrArg some (by kernel_rfl))
  t3 := Tryz.underlying3
  a3 := Tryz.isAgg3
  z3 := Tryz.sizeOf3
  v3 := Tryz.zeroValue3
  t4 := Tryz.underlying4
  a4 := Tryz.isAgg4
  z4 := Tryz.sizeOf4
  v4 := Tryz.zeroValue4
  t9 := Tryz.underlying9
  a9 := Tryz.isAgg9
  z9 := Tryz.sizeOf9
  v9 := Tryz.zeroValue9 }
open Go.RowKit Go.Lib in
theorem Tryz.strings_HasPrefix (s p : ByteArray) (w : World) :
    Calls Tryz.prog 76 #[.string s, .string p] w fun e w' => e = .returned (.bool (Lib.hasPrefix s.data.toList p.data.toList)) ∧ w' = w := Any.strings_HasPrefix Tryz.lays99 s p w
def Tryz.lays155_ren : Go.Shelf.Ren := ⟨fun | 155 => 99 | 154 => 132 | 138 => 158 | 165 => 119 | 143 => 69 | 166 => 16 | 197 => 159 | 169 => 11 | 195 => 174 | 218 => 175 | 240 => 30 | 241 => 151 | 219 => 98 | 260 => 176 | 276 => 61 | 277 => 170 | 217 => 108 | 225 => 129 | 224 => 130 | 267 => 131 | 266 => 133 | 314 => 157 | n => n, fun | 9 => 9 | 3 => 3 | 4 => 4 | 72 => 39 | 0 => 0 | 76 => 55 | 105 => 224 | 21 => 21 | 5 => 5 | 70 => 36 | 20 => 20 | 37 => 37 | 75 => 54 | 127 => 57 | 164 => 136 | 46 => 180 | 119 => 241 | 139 => 244 | 138 => 243 | 146 => 210 | 51 => 209 | 80 => 42 | n => n, fun | 1 => 1 | 3 => 5 | 4 => 6 | n => n⟩
theorem Tryz.lays155 : Go.Proofs.Lays.n155 Tryz.prog Tryz.lays155_ren := {
  mixed := by kernel_rfl
  f138 := Tryz.func158.trans (congrArg some (by kernel_rfl))
  f143 := Tryz.func69.trans (congrArg some (by kernel_rfl))
  f154 := Tryz.func132.trans (congrArg some (by kernel_rfl))
  f155 := Tryz.func99.trans (congrArg some (by kernel_rfl))
  f165 := Tryz.func119.trans (congrArg some (by kernel_rfl))
  f166 := Tryz.func16.trans (congrArg some (by kernel_rfl))
  f169 := Tryz.func11.trans (congrArg some (by kernel_rfl))
  f195 := Tryz.func174.trans (congrArg some (by kernel_rfl))
  f197 := Tryz.func159.trans (congrArg some (by kernel_rfl))
  f217 := Tryz.func108.trans (congrArg some (by kernel_rfl))
  f218 := Tryz.func175.trans (congrArg some (by kernel_rfl))
  f219 := Tryz.func98.trans (congrArg some (by kernel_rfl))
  f224 := Tryz.func130.trans (congrArg some (by kernel_rfl))
  f225 := Tryz.func129.trans (congrArg some (by kernel_rfl))
  f240 := Tryz.func30.trans (congrArg some (by kernel_rfl))
  f241 := Tryz.func151.trans (congrArg some (by kernel_rfl))
  f260 := Tryz.func176.trans (congrArg some (by kernel_rfl))
  f266 := Tryz.func133.trans (congrArg some (by kernel_rfl))
  f267 := Tryz.func131.trans (congrArg some (by kernel_rfl))
  f276 := Tryz.func61.trans (congrArg some (by kernel_rfl))
  f277 := Tryz.func170.trans (congrArg some (by kernel_rfl))
  f314 := Tryz.func157.trans (congrArg some (by kernel_rfl))
  t0 := Tryz.underlying0
  a0 := Tryz.isAgg0
  z0 := Tryz.sizeOf0
  v0 := Tryz.zeroValue0
  t3 := Tryz.underlying3
  a3 := Tryz.isAgg3
  z3 := Tryz.sizeOf3
  v3 := Tryz.zeroValue3
  t4 := Tryz.underlying4
  a4 := Tryz.isAgg4
  z4 := Tryz.sizeOf4
  v4 := Tryz.zeroValue4
  t5 := Tryz.underlying5
  a5 := Tryz.isAgg5
  z5 := Tryz.sizeOf5
  v5 := Tryz.zeroValue5
  t9 := Tryz.underlying9
  a9 := Tryz.isAgg9
  z9 := Tryz.sizeOf9
  v9 := Tryz.zeroValue9
  t20 := Tryz.underlying20
  a20 := Tryz.isAgg20
  z20 := Tryz.sizeOf20
  v20 := Tryz.zeroValue20
  t21 := Tryz.underlying21
  a21 := Tryz.isAgg21
  z21 := Tryz.sizeOf21
  v21 := Tryz.zeroValue21
  t37 := Tryz.underlying37
  a37 := Tryz.isAgg37
  z37 := Tryz.sizeOf37
  v37 := Tryz.zeroValue37
  t46 := Tryz.underlying180
  a46 := Tryz.isAgg180
  z46 := Tryz.sizeOf180
  v46 := Tryz.zeroValue180
  t51 := Tryz.underlying209
  a51 := Tryz.isAgg209
  z51 := Tryz.sizeOf209
  v51 := Tryz.zeroValue209
  t70 := Tryz.underlying36
  a70 := Tryz.isAgg36
  z70 := Tryz.sizeOf36
  v70 := Tryz.zeroValue36
  t72 := Tryz.underlying39
  a72 := Tryz.isAgg39
  z72 := Tryz.sizeOf39
  v72 := Tryz.zeroValue39
  t75 := Tryz.underlying54
  a75 := Tryz.isAgg54
  z75 := Tryz.sizeOf54
  v75 := Tryz.zeroValue54
  t76 := Tryz.underlying55
  a76 := Tryz.isAgg55
  z76 := Tryz.sizeOf55
  v76 := Tryz.zeroValue55
  t105 := Tryz.underlying224
  a105 := Tryz.isAgg224
  z105 := Tryz.sizeOf224
  v105 := Tryz.zeroValue224
  t119 := Tryz.underlying241
  a119 := Tryz.isAgg241
  z119 := Tryz.sizeOf241
  t127 := Tryz.underlying57
  a127 := Tryz.isAgg57
  z127 := Tryz.sizeOf57
  v127 := Tryz.zeroValue57
  t138 := Tryz.underlying243
  a138 := Tryz.isAgg243
  z138 := Tryz.sizeOf243
  v138 := Tryz.zeroValue243
  t139 := Tryz.underlying244
  a139 := Tryz.isAgg244
  z139 := Tryz.sizeOf244
  v139 := Tryz.zeroValue244
  t146 := Tryz.underlying210
  a146 := Tryz.isAgg210
  z146 := Tryz.sizeOf210
  v146 := Tryz.zeroValue210
  t164 := Tryz.underlying136
  a164 := Tryz.isAgg136
  z164 := Tryz.sizeOf136
  v164 := Tryz.zeroValue136
  g1 := by kernel_rfl
  g3 := by kernel_rfl
  g4 := by kernel_rfl }
theorem Tryz.Builder_Extra_155 : Builder.Extra Tryz.prog Tryz.lays155_ren := {
  sizeBuilder := by kernel_rfl
  liesBuilder := by kernel_rfl
  t5 := Tryz.underlying5
  a5 := Tryz.isAgg5
  z5 := Tryz.sizeOf5
  v5 := Tryz.zeroValue5
  infoByte := by kernel_rfl
  cellsByte := by kernel_rfl
  sizeByte := by kernel_rfl
  neB5 := by decide }
open Go.RowKit Go.Lib in
theorem Tryz.strings_ReplaceAll (s old new : ByteArray) (m : Int) (w : World) (hs : s.size < 4294967281) (hm : w.cell? ⟨1, 0, none⟩ = some (.int .i64 m)) (h1 : 1 ≤ old.size) (hlen : s.size + Lib.countB s old * new.size ≤ 140737488355328) :
    Calls Tryz.prog 99 #[.string s, .string old, .string new] w fun e w' =>
      e = .returned (.string ⟨(Lib.replaceAll s.data.toList old.data.toList new.data.toList).toArray⟩) ∧ Below w.heap.size w w' := Any.strings_ReplaceAll Tryz.lays155 Tryz.Builder_Extra_155 s old new m w hs hm h1 hlen
def Tryz.lays152_ren : Go.Shelf.Ren := ⟨fun | 152 => 165 | 137 => 78 | 119 => 156 | 224 => 130 | 225 => 129 | 217 => 108 | 266 => 133 | n => n, fun | 9 => 9 | 21 => 21 | 3 => 3 | 4 => 4 | 5 => 5 | 0 => 0 | 46 => 180 | n => n, fun | n => n⟩
theorem Tryz.lays152 : Go.Proofs.Lays.n152 Tryz.prog Tryz.lays152_ren := {
  mixed := by kernel_rfl
  f119 := Tryz.func156.trans (congrArg some (by kernel_rfl))
  f137 := Tryz.func78.trans (congrArg some (by kernel_rfl))
  f152 := Tryz.func165.trans (congrArg some (by kernel_rfl))
  f217 := Tryz.func108.trans (congrArg some (by kernel_rfl))
  f224 := Tryz.func130.trans (congrArg some (by kernel_rfl))
  f225 := Tryz.func129.trans (congrArg some (by kernel_rfl))
  f266 := Tryz.func133.trans (congrArg some (by kernel_rfl))
  t0 := Tryz.underlying0
  a0 := Tryz.isAgg0
  z0 := Tryz.sizeOf0
  v0 := Tryz.zeroValue0
  t3 := Tryz.underlying3
  a3 := Tryz.isAgg3
  z3 := Tryz.sizeOf3
  v3 := Tryz.zeroValue3
  t4 := Tryz.underlying4
  a4 := Tryz.isAgg4
  z4 := Tryz.sizeOf4
  v4 := Tryz.zeroValue4
  t5 := Tryz.underlying5
  a5 := Tryz.isAgg5
  z5 := Tryz.sizeOf5
  v5 := Tryz.zeroValue5
  t9 := Tryz.underlying9
  a9 := Tryz.isAgg9
  z9 := Tryz.sizeOf9
  v9 := Tryz.zeroValue9
  t21 := Tryz.underlying21
  a21 := Tryz.isAgg21
  z21 := Tryz.sizeOf21
  v21 := Tryz.zeroValue21
  t46 := Tryz.underlying180
  a46 := Tryz.isAgg180
  z46 := Tryz.sizeOf180
  v46 := Tryz.zeroValue180 }
open Go.RowKit Go.Lib in
theorem Tryz.strings_IndexRune_ascii (s : ByteArray) (r : Int) (w : World) (h0 : 0 ≤ r) (h1 : r < 128) :
    Calls Tryz.prog 165 #[.string s, .int .i32 r] w fun e w' => e = .returned (.int .i64 (Lib.indexByte s.data.toList r.toNat.toUInt8)) ∧ w' = w := Any.strings_IndexRune_ascii Tryz.lays152 s r w h0 h1
def Tryz.lays151_ren : Go.Shelf.Ren := ⟨fun | 151 => 177 | 152 => 165 | 137 => 78 | 119 => 156 | 224 => 130 | 225 => 129 | 217 => 108 | 266 => 133 | n => n, fun | 9 => 9 | 21 => 21 | 4 => 4 | 3 => 3 | 5 => 5 | 0 => 0 | 46 => 180 | n => n, fun | n => n⟩
theorem Tryz.lays151 : Go.Proofs.Lays.n151 Tryz.prog Tryz.lays151_ren := {
  mixed := by kernel_rfl
  f119 := Tryz.func156.trans (congrArg some (by kernel_rfl))
  f137 := Tryz.func78.trans (congrArg some (by kernel_rfl))
  f151 := Tryz.func177.trans (congrArg some (by kernel_rfl))
  f152 := Tryz.func165.trans (congrArg some (by kernel_rfl))
  f217 := Tryz.func108.trans (congrArg some (by kernel_rfl))
  f224 := Tryz.func130.trans (congrArg some (by kernel_rfl))
  f225 := Tryz.func129.trans (congrArg some (by kernel_rfl))
  f266 := Tryz.func133.trans (congrArg some (by kernel_rfl))
  t0 := Tryz.underlying0
  a0 := Tryz.isAgg0
  z0 := Tryz.sizeOf0
  v0 := Tryz.zeroValue0
  t3 := Tryz.underlying3
  a3 := Tryz.isAgg3
  z3 := Tryz.sizeOf3
  v3 := Tryz.zeroValue3
  t4 := Tryz.underlying4
  a4 := Tryz.isAgg4
  z4 := Tryz.sizeOf4
  v4 := Tryz.zeroValue4
  t5 := Tryz.underlying5
  a5 := Tryz.isAgg5
  z5 := Tryz.sizeOf5
  v5 := Tryz.zeroValue5
  t9 := Tryz.underlying9
  a9 := Tryz.isAgg9
  z9 := Tryz.sizeOf9
  v9 := Tryz.zeroValue9
  t21 := Tryz.underlying21
  a21 := Tryz.isAgg21
  z21 := Tryz.sizeOf21
  v21 := Tryz.zeroValue21
  t46 := Tryz.underlying180
  a46 := Tryz.isAgg180
  z46 := Tryz.sizeOf180
  v46 := Tryz.zeroValue180 }
open Go.RowKit Go.Lib in
theorem Tryz.strings_ContainsRune_ascii (s : ByteArray) (r : Int) (w : World) (h0 : 0 ≤ r) (h1 : r < 128) :
    Calls Tryz.prog 177 #[.string s, .int .i32 r] w fun e w' => e = .returned (.bool (decide (0 ≤ Lib.indexByte s.data.toList r.toNat.toUInt8))) ∧ w' = w := Any.strings_ContainsRune_ascii Tryz.lays151 s r w h0 h1
def Tryz.lays153_ren : Go.Shelf.Ren := ⟨fun | 153 => 144 | 152 => 165 | 226 => 166 | 227 => 167 | 228 => 168 | 137 => 78 | 119 => 156 | 224 => 130 | 225 => 129 | 217 => 108 | 266 => 133 | n => n, fun | 9 => 9 | 3 => 3 | 4 => 4 | 5 => 5 | 21 => 21 | 117 => 231 | 116 => 230 | 0 => 0 | 46 => 180 | 124 => 239 | n => n, fun | n => n⟩
theorem Tryz.lays153 : Go.Proofs.Lays.n153 Tryz.prog Tryz.lays153_ren := {
  mixed := by kernel_rfl
  f119 := Tryz.func156.trans (congrArg some (by kernel_rfl))
  f137 := Tryz.func78.trans (congrArg some (by kernel_rfl))
  f152 := Tryz.func165.trans (congrArg some (by kernel_rfl))
  f153 := Tryz.func144.trans (congrArg some (by kernel_rfl))
  f217 := Tryz.func108.trans (congrArg some (by kernel_rfl))
  f224 := Tryz.func130.trans (congrArg some (by kernel_rfl))
  f225 := Tryz.func129.trans (congrArg some (by kernel_rfl))
  f226 := Tryz.func166.trans (congrArg some (by kernel_rfl))
  f227 := Tryz.func167.trans (congrArg some (by kernel_rfl))
  f228 := Tryz.func168.trans (congrArg some (by kernel_rfl))
  f266 := Tryz.func133.trans (congrArg some (by kernel_rfl))
  t0 := Tryz.underlying0
  a0 := Tryz.isAgg0
  z0 := Tryz.sizeOf0
  v0 := Tryz.zeroValue0
  t3 := Tryz.underlying3
  a3 := Tryz.isAgg3
  z3 := Tryz.sizeOf3
  v3 := Tryz.zeroValue3
  t4 := Tryz.underlying4
  a4 := Tryz.isAgg4
  z4 := Tryz.sizeOf4
  v4 := Tryz.zeroValue4
  t5 := Tryz.underlying5
  a5 := Tryz.isAgg5
  z5 := Tryz.sizeOf5
  v5 := Tryz.zeroValue5
  t9 := Tryz.underlying9
  a9 := Tryz.isAgg9
  z9 := Tryz.sizeOf9
  v9 := Tryz.zeroValue9
  t21 := Tryz.underlying21
  a21 := Tryz.isAgg21
  z21 := Tryz.sizeOf21
  v21 := Tryz.zeroValue21
  t46 := Tryz.underlying180
  a46 := Tryz.isAgg180
  z46 := Tryz.sizeOf180
  v46 := Tryz.zeroValue180
  t116 := Tryz.underlying230
  a116 := Tryz.isAgg230
  z116 := Tryz.sizeOf230
  t117 := Tryz.underlying231
  a117 := Tryz.isAgg231
  z117 := Tryz.sizeOf231
  v117 := Tryz.zeroValue231
  t124 := Tryz.underlying239
  a124 := Tryz.isAgg239
  z124 := Tryz.sizeOf239
  v124 := Tryz.zeroValue239 }
open Go.RowKit Go.Lib in
theorem Tryz.strings_IndexAny_long (hv116 : ∀ w, (zeroValue 230).run Tryz.prog w = .ok (.agg (Array.replicate 256 (.bool false))) w) (s chars : ByteArray) (w : World) (h2 : 2 ≤ chars.size) (h8 : 8 < s.size) (hs : s.size < 4294967281) (hcs : chars.size < 4294967281) (hascii : ∀ (j : Nat) b, chars.data.toList[j]? = some b → b.toNat < 128) :
    Calls Tryz.prog 144 #[.string s, .string chars] w fun e w' => e = .returned (.int .i64 (Lib.indexAny s.data.toList chars.data.toList)) ∧ w' = ((w.alloc (.cells (Lib.setCells chars.data.toList) 230)).alloc (.cells (Lib.setCells chars.data.toList) 230)) := Any.strings_IndexAny_long Tryz.lays153 hv116 (by kernel_rfl) s chars w h2 h8 hs hcs hascii
def Tryz.lays105_ren : Go.Shelf.Ren := ⟨fun | 105 => 91 | 212 => 118 | 99 => 76 | 165 => 119 | 166 => 16 | 170 => 120 | 169 => 11 | 263 => 149 | 264 => 150 | 206 => 107 | 240 => 30 | 241 => 151 | 276 => 61 | 277 => 170 | n => n, fun | 9 => 9 | 3 => 3 | 4 => 4 | 20 => 20 | 0 => 0 | 46 => 180 | 109 => 181 | 5 => 5 | 72 => 39 | 76 => 55 | 51 => 209 | 146 => 210 | 53 => 212 | 148 => 213 | 70 => 36 | 37 => 37 | 75 => 54 | 127 => 57 | 164 => 136 | 80 => 42 | n => n, fun | n => n⟩
theorem Tryz.lays105 : Go.Proofs.Lays.n105 Tryz.prog Tryz.lays105_ren := {
  mixed := by kernel_rfl
  f99 := Tryz.func76.trans (congrArg some (by kernel_rfl))
  f105 := Tryz.func91.trans (congrArg some (by kernel_rfl))
  f165 := Tryz.func119.trans (congrArg some (by kernel_rfl))
  f166 := Tryz.func16.trans (congrArg some (by kernel_rfl))
  f169 := Tryz.func11.trans (congrArg some (by kernel_rfl))
  f170 := Tryz.func120.trans (congrArg some (by kernel_rfl))
  f206 := Tryz.func107.trans (congrArg some (by kernel_rfl))
  f212 := Tryz.func118.trans (congrArg some (by kernel_rfl))
  f240 := Tryz.func30.trans (congrArg some (by kernel_rfl))
  f241 := Tryz.func151.trans (congrArg some (by kernel_rfl))
  f263 := Tryz.func149.trans (congrArg some (by kernel_rfl))
  f264 := Tryz.func150.trans (congrArg some (by kernel_rfl))
  f276 := Tryz.func61.trans (congrArg some (by kernel_rfl))
  f277 := Tryz.func170.trans (congrArg some (by kernel_rfl))
  t0 := Tryz.underlying0
  a0 := Tryz.isAgg0
  z0 := Tryz.sizeOf0
  v0 := Tryz.zeroValue0
  t3 := Tryz.underlying3
  a3 := Tryz.isAgg3
  z3 := Tryz.sizeOf3
  v3 := Tryz.zeroValue3
  t4 := Tryz.underlying4
  a4 := Tryz.isAgg4
  z4 := Tryz.sizeOf4
  v4 := Tryz.zeroValue4
  t5 := Tryz.underlying5
  a5 := Tryz.isAgg5
  z5 := Tryz.sizeOf5
  v5 := Tryz.zeroValue5
  t9 := Tryz.underlying9
  a9 := Tryz.isAgg9
  z9 := Tryz.sizeOf9
  v9 := Tryz.zeroValue9
  t20 := Tryz.underlying20
  a20 := Tryz.isAgg20
  z20 := Tryz.sizeOf20
  v20 := Tryz.zeroValue20
  t37 := Tryz.underlying37
  a37 := Tryz.isAgg37
  z37 := Tryz.sizeOf37
  v37 := Tryz.zeroValue37
  t46 := Tryz.underlying180
  a46 := Tryz.isAgg180
  z46 := Tryz.sizeOf180
  v46 := Tryz.zeroValue180
  t51 := Tryz.underlying209
  a51 := Tryz.isAgg209
  z51 := Tryz.sizeOf209
  v51 := Tryz.zeroValue209
  t53 := Tryz.underlying212
  a53 := Tryz.isAgg212
  z53 := Tryz.sizeOf212
  v53 := Tryz.zeroValue212
  t70 := Tryz.underlying36
  a70 := Tryz.isAgg36
  z70 := Tryz.sizeOf36
  v70 := Tryz.zeroValue36
  t72 := Tryz.underlying39
  a72 := Tryz.isAgg39
  z72 := Tryz.sizeOf39
  v72 := Tryz.zeroValue39
  t75 := Tryz.underlying54
  a75 := Tryz.isAgg54
  z75 := Tryz.sizeOf54
  v75 := Tryz.zeroValue54
  t76 := Tryz.underlying55
  a76 := Tryz.isAgg55
  z76 := Tryz.sizeOf55
  v76 := Tryz.zeroValue55
  t109 := Tryz.underlying181
  a109 := Tryz.isAgg181
  z109 := Tryz.sizeOf181
  v109 := Tryz.zeroValue181
  t127 := Tryz.underlying57
  a127 := Tryz.isAgg57
  z127 := Tryz.sizeOf57
  v127 := Tryz.zeroValue57
  t146 := Tryz.underlying210
  a146 := Tryz.isAgg210
  z146 := Tryz.sizeOf210
  v146 := Tryz.zeroValue210
  t148 := Tryz.underlying213
  a148 := Tryz.isAgg213
  z148 := Tryz.sizeOf213
  v148 := Tryz.zeroValue213
  t164 := Tryz.underlying136
  a164 := Tryz.isAgg136
  z164 := Tryz.sizeOf136
  v164 := Tryz.zeroValue136 }
theorem Tryz.Builder_Extra_105 : Builder.Extra Tryz.prog Tryz.lays105_ren := {
  sizeBuilder := by kernel_rfl
  liesBuilder := by kernel_rfl
  t5 := Tryz.underlying5
  a5 := Tryz.isAgg5
  z5 := Tryz.sizeOf5
  v5 := Tryz.zeroValue5
  infoByte := by kernel_rfl
  cellsByte := by kernel_rfl
  sizeByte := by kernel_rfl
  neB5 := by decide }
open Go.RowKit Go.Lib in
theorem Tryz.strings_Repeat (s : ByteArray) (c : Nat) (w : World) (hc : c ≤ 9223372036854775807) (hlen : s.size * c ≤ 140737488355328) :
    Calls Tryz.prog 91 #[.string s, .int .i64 c] w fun e w' => e = .returned (.string ⟨(Lib.repeatL s.data.toList c).toArray⟩) ∧ Below w.heap.size w w' := Any.strings_Repeat Tryz.lays105 Tryz.Builder_Extra_105 s c w hc hlen
def Tryz.laysNm225_ren : Go.Shelf.Ren := ⟨fun | 25 => 112 | 31 => 138 | 32 => 139 | 37 => 161 | n => n, fun | 22 => 22 | 3 => 3 | 4 => 4 | 40 => 180 | 0 => 0 | n => n, fun | n => n⟩
theorem Tryz.laysNm225 : Go.Proofs.Lays2.n25 Tryz.prog Tryz.laysNm225_ren := {
  mixed := by kernel_rfl
  f25 := Tryz.func112.trans (congrArg some (by kernel_rfl))
  f31 := Tryz.func138.trans (congrArg some (by kernel_rfl))
  f32 := Tryz.func139.trans (congrArg some (by kernel_rfl))
  f37 := Tryz.func161.trans (congrArg some (by kernel_rfl))
  t0 := Tryz.underlying0
  a0 := Tryz.isAgg0
  z0 := Tryz.sizeOf0
  v0 := Tryz.zeroValue0
  t3 := Tryz.underlying3
  a3 := Tryz.isAgg3
  z3 := Tryz.sizeOf3
  v3 := Tryz.zeroValue3
  t4 := Tryz.underlying4
  a4 := Tryz.isAgg4
  z4 := Tryz.sizeOf4
  v4 := Tryz.zeroValue4
  t22 := Tryz.underlying22
  a22 := Tryz.isAgg22
  z22 := Tryz.sizeOf22
  v22 := Tryz.zeroValue22
  t40 := Tryz.underlying180
  a40 := Tryz.isAgg180
  z40 := Tryz.sizeOf180
  v40 := Tryz.zeroValue180 }
open Go.RowKit Go.Lib in
theorem Tryz.slices_BinarySearch_int (b off n c : Nat) (zs : List Int) (x : Int) (w : World) (hz : n ≤ zs.length) (hbig : n < 4611686018427387904) (hc : ∀ j, j < zs.length → w.cell? ⟨b, off + j, none⟩ = some (.int .i64 (zs.getD j 0))) (hs : (zs.take n).Pairwise (· ≤ ·)) :
    Calls Tryz.prog 112 #[.slice (some ⟨b, off, none⟩) n c, .int .i64 x] w fun e w' => e = .returned (.tuple #[.int .i64 ((zs.take n).countP (· < x) : Nat), .bool ((zs.take n).contains x)]) ∧ ∃ q, w' = w.drewN q := Any.slices_BinarySearch_int Tryz.laysNm225 b off n c zs x w hz hbig hc hs
open Go.RowKit Go.Lib in
theorem Tryz.slices_BinarySearch_int_empty (a : Option Addr) (c : Nat) (x : Int) (w : World) :
    Calls Tryz.prog 112 #[.slice a 0 c, .int .i64 x] w fun e w' => e = .returned (.tuple #[.int .i64 0, .bool false]) ∧ w' = w := Any.slices_BinarySearch_int_empty Tryz.laysNm225 a c x w
def Tryz.laysSlH6_f62_ren : Go.Shelf.Ren := ⟨fun | 6 => 62 | n => n, fun | 22 => 22 | 23 => 3 | 25 => 87 | 3 => 3 | 0 => 0 | 4 => 4 | n => n, fun | n => n⟩
theorem Tryz.laysSlH6_f62 : Go.Proofs.SlLaysH.n6 Tryz.prog Tryz.laysSlH6_f62_ren := {
  mixed := by kernel_rfl
  f6 := ⟨Tryz.f62.name, by decide, Tryz.func62.trans (congrArg some (by kernel_rfl))⟩
  t0 := Tryz.underlying0
  a0 := Tryz.isAgg0
  z0 := Tryz.sizeOf0
  v0 := Tryz.zeroValue0
  t3 := Tryz.underlying3
  a3 := Tryz.isAgg3
  z3 := Tryz.sizeOf3
  v3 := Tryz.zeroValue3
  t4 := Tryz.underlying4
  a4 := Tryz.isAgg4
  z4 := Tryz.sizeOf4
  v4 := Tryz.zeroValue4
  t22 := Tryz.underlying22
  a22 := Tryz.isAgg22
  z22 := Tryz.sizeOf22
  v22 := Tryz.zeroValue22
  a23 := Tryz.isAgg3
  z23 := Tryz.sizeOf3
  t25 := Tryz.underlying87
  a25 := Tryz.isAgg87
  z25 := Tryz.sizeOf87
  v25 := Tryz.zeroValue87 }
open Go.RowKit Go.Lib in
theorem Tryz.slices_IndexFunc_empty {α : Type} [Inhabited α] (a : Option Addr) (c : Nat) (fv : Value) (w : World) :
    Calls Tryz.prog 62 #[.slice a 0 c, fv] w fun e w' => e = .returned (.int .i64 (-1)) ∧ w' = w := AnyE.slices_IndexFunc_empty Tryz.laysSlH6_f62 a c fv w
def Tryz.laysSlH10_f31_ren : Go.Shelf.Ren := ⟨fun | 10 => 31 | 6 => 62 | n => n, fun | 22 => 22 | 23 => 3 | 25 => 87 | 3 => 3 | 4 => 4 | 0 => 0 | n => n, fun | n => n⟩
theorem Tryz.laysSlH10_f31 : Go.Proofs.SlLaysH.n10 Tryz.prog Tryz.laysSlH10_f31_ren := {
  mixed := by kernel_rfl
  f6 := ⟨Tryz.f62.name, by decide, Tryz.func62.trans (congrArg some (by kernel_rfl))⟩
  f10 := ⟨Tryz.f31.name, by decide, Tryz.func31.trans (congrArg some (by kernel_rfl))⟩
  t0 := Tryz.underlying0
  a0 := Tryz.isAgg0
  z0 := Tryz.sizeOf0
  v0 := Tryz.zeroValue0
  t3 := Tryz.underlying3
  a3 := Tryz.isAgg3
  z3 := Tryz.sizeOf3
  v3 := Tryz.zeroValue3
  t4 := Tryz.underlying4
  a4 := Tryz.isAgg4
  z4 := Tryz.sizeOf4
  v4 := Tryz.zeroValue4
  t22 := Tryz.underlying22
  a22 := Tryz.isAgg22
  z22 := Tryz.sizeOf22
  v22 := Tryz.zeroValue22
  a23 := Tryz.isAgg3
  z23 := Tryz.sizeOf3
  t25 := Tryz.underlying87
  a25 := Tryz.isAgg87
  z25 := Tryz.sizeOf87
  v25 := Tryz.zeroValue87 }
open Go.RowKit Go.Lib Go.Sort in
theorem Tryz.slices_DeleteFunc {α : Type} [Inhabited α] (enc : α → Value) (hO : OneCell enc) (p : α → Bool) (g : Nat) (lb : Array Value) (eg : ∀ args w, (callFunc g args).run Tryz.prog w = .ok (.enter g args) w) (zr : α) (v23 : ∀ w, (zeroValue 3).run Tryz.prog w = .ok (enc zr) w) (blk off cap : Nat) (d : Array α) (w : World) (hp : PredAt Tryz.prog g lb enc p w) (hpo : PredOver Tryz.prog g lb enc p blk off d.size w) (hH : Holds enc w blk off d) (hsz : d.size ≤ 9223372036854775807) (hcap : d.size ≤ cap) :
    Calls Tryz.prog 31 #[.slice (some ⟨blk, off, none⟩) d.size cap, .func (.func g) #[] lb] w fun e w' => e = .returned (.slice (some ⟨blk, off, none⟩) (d.toList.filter fun x => !p x).length cap) ∧ ∃ q, w' = putRow enc (Sort.ahead w q) blk off ((d.toList.filter fun x => !p x) ++ List.replicate (d.size - (d.toList.filter fun x => !p x).length) zr).toArray := AnyE.slices_DeleteFunc Tryz.laysSlH10_f31 enc hO p g lb eg zr v23 blk off cap d w hp hpo hH hsz hcap
end Go.Proofs

namespace Go.Proofs.YteihmgcphbijhaaGreatDoor
open Go.ChangeShapes Go.WideShapes Go.ChangeAt Go.RowKit
theorem own : ownKnob Tryz.prog.godebug = none := by kernel_rfl
theorem laidOut : laidOutB Tryz.prog = true := by kernel_rfl
/-- The slice value at A (capacity 'cap') holds just the values xs, one cell each. -/
def RowOf (w : World) (A : Option Addr) (cap : Nat) (xs : List Value) : Prop :=
  xs.length ≤ cap ∧ cap ≤ maxLen ∧ (xs = [] ∨ ∃ b off, A = some ⟨b, off, none⟩ ∧ b < w.heap.size ∧ ∀ i (h : i < xs.length), w.cell? ⟨b, off + i, none⟩ = some xs[i])
theorem RowOf.below {w w' : World} {A : Option Addr} {cap : Nat} {xs : List Value} (h : RowOf w A cap xs) (hb : Below w.heap.size w w') : RowOf w' A cap xs := by
  obtain ⟨h1, h2, h3⟩ := h
  refine ⟨h1, h2, ?_⟩
  rcases h3 with h3 | ⟨b, off, e, hlt, hc⟩
  · exact Or.inl h3
  · refine Or.inr ⟨b, off, e, Nat.lt_of_lt_of_le hlt hb.size, fun i hi => ?_⟩
    rw [hb.cell (p := ⟨b, off + i, none⟩) hlt]
    exact hc i hi
theorem rowOf_mk {w : World} {a : Addr} {len cap n : Nat} {f : Nat → Value} (hl : len ≤ n) (hlc : len ≤ cap) (hc : cap ≤ maxLen) (h : ∀ i, i < n → w.cell? (a.add i) = some (f i)) :
    RowOf w (some a) cap ((List.range len).map f) := by
  refine ⟨by simpa using hlc, hc, ?_⟩
  by_cases h0 : len = 0
  · exact Or.inl (by simp [h0])
  · have hcell0 := h 0 (by omega)
    have hsp : a.spot = none := by
      have := World.cell?_spot hcell0
      simpa [Addr.add] using this
    obtain ⟨b, off, sp⟩ := a
    simp only at hsp
    subst hsp
    refine Or.inr ⟨b, off, rfl, ?_, fun i hi => ?_⟩
    · have := World.block_lt_of_cell? _ _ hcell0
      simpa [Addr.add] using this
    · simp only [List.length_map, List.length_range] at hi
      have hci := h i (by omega)
      simp only [List.getElem_map, List.getElem_range]
      rw [← hci]
      by_cases hi0 : i = 0
      · subst hi0; simp [Addr.add]
      · simp [Addr.add, hi0]
section
variable {H : Type} {enc : TypeId × Value → H} {P : Program} {w : World} {held : Bool} {A : Option Addr} {len cap : Nat} {d : DataW H} {ps : List MemPlace}
theorem rowOf_nil (A : Option Addr) : RowOf w A 0 [] := ⟨Nat.le_refl _, Nat.zero_le _, Or.inl rfl⟩
theorem map_range_getD {α : Type} (zs : List α) (z0 : α) (len : Nat) (h : len ≤ zs.length) (g : α → Value) : (List.range len).map (fun i => g (zs.getD i z0)) = (zs.take len).map g := by
  apply List.ext_getElem
  · simp; omega
  · intro i h1 h2
    simp only [List.length_map, List.length_range] at h1
    simp only [List.getElem_map, List.getElem_range, List.getElem_take]
    rw [List.getD_eq_getElem?_getD, List.getElem?_eq_getElem (by omega)]
    rfl
theorem opened_ints {t e : TypeId} {k : IntKind} {fuel : Nat} {x : DataW H × List MemPlace} (ht : P.underlying t = some (.slice e)) (he : P.underlying e = some (.int k)) (hc : P.cellsOf e = 1)
    (h : DataW.trod enc P w 0 (fun _ => true) held fuel t (Value.slice A len cap).cells.toList = some x) :
    ∃ zs : List Int, zs.length = len ∧ RowOf w A cap (zs.map (Value.int k)) ∧ ∀ n ∈ zs, (Lit.int k n).wf = true := by
  rcases open_ints ht he hc h with ⟨hcs, _⟩ | ⟨a, l, c, zs, hcs, _, hl, hm, hz, _, hcell, hwz⟩
  · simp [Value.cells] at hcs
    obtain ⟨rfl, rfl, rfl⟩ := hcs
    exact ⟨[], rfl, rowOf_nil _, by simp⟩
  · simp [Value.cells] at hcs
    obtain ⟨rfl, rfl, rfl⟩ := hcs
    simp only [if_true] at hz
    refine ⟨zs.take len, by simp; omega, ?_, fun n hn => hwz n (List.mem_of_mem_take hn)⟩
    rw [← map_range_getD zs 0 len (by omega) (Value.int k)]
    exact rowOf_mk (n := zs.length) (by omega) hl hm hcell
theorem opened_strings {t e : TypeId} {fuel : Nat} {x : DataW H × List MemPlace} (ht : P.underlying t = some (.slice e)) (he : P.underlying e = some .string) (hc : P.cellsOf e = 1)
    (h : DataW.trod enc P w 0 (fun _ => true) held fuel t (Value.slice A len cap).cells.toList = some x) :
    ∃ ss : List ByteArray, ss.length = len ∧ RowOf w A cap (ss.map Value.string) ∧ ∀ s ∈ ss, s.size ≤ maxLen := by
  rcases open_strings ht he hc h with ⟨hcs, _⟩ | ⟨a, l, c, zs, hcs, _, hl, hm, hz, _, hcell, hwz⟩
  · simp [Value.cells] at hcs
    obtain ⟨rfl, rfl, rfl⟩ := hcs
    exact ⟨[], rfl, rowOf_nil _, by simp⟩
  · simp [Value.cells] at hcs
    obtain ⟨rfl, rfl, rfl⟩ := hcs
    simp only [if_true] at hz
    refine ⟨zs.take len, by simp; omega, ?_, fun n hn => hwz n (List.mem_of_mem_take hn)⟩
    rw [← map_range_getD zs ByteArray.empty len (by omega) Value.string]
    exact rowOf_mk (n := zs.length) (by omega) hl hm hcell
end
end Go.Proofs.YteihmgcphbijhaaGreatDoor
namespace Go.Proofs.YteihmgcphbijhaaGreatDoor
open Go.RowKit
set_option linter.unusedSimpArgs false
set_option linter.unusedVariables false
theorem ret_i32 {a b : Int} (h : a = b) : Ending.returned (.int .i32 a) = .returned (.int .i32 b) := by rw [h]
theorem alloc_size (w : World) (o : Obj) : (w.alloc o).heap.size = w.heap.size + 1 := by show (w.heap.push o).size = _; simp
theorem drop_byte (l : List UInt8) (k : Nat) (h : k < l.length) : l.drop k = l[k] :: l.drop (k + 1) := List.drop_eq_getElem_cons h
theorem ret_bool {a b : Bool} (h : a = b) : Ending.returned (.bool a) = .returned (.bool b) := by rw [h]
/-- One call behind another one. -/
theorem _root_.Go.RowKit.Below.then {w w1 w2 : World} (h : Below w.heap.size w w1) (k : Below w1.heap.size w1 w2) : Below w.heap.size w w2 := h.trans (k.mono h.size)
theorem get_list (s : ByteArray) (k : Nat) (h : k < s.size) : s.data.toList.drop k = s[k] :: s.data.toList.drop (k + 1) := by
  rw [drop_byte _ _ (by simpa using h)]
  rfl
theorem str_append (l : List UInt8) (s : ByteArray) : (⟨l.toArray⟩ : ByteArray) ++ s = ⟨(l ++ s.data.toList).toArray⟩ := by
  apply ByteArray.ext
  apply Array.ext'
  simp
theorem str_size (l : List UInt8) : (⟨l.toArray⟩ : ByteArray).size = l.length := by show l.toArray.size = _; simp
theorem ret_string {a b : ByteArray} (h : a = b) : Ending.returned (.string a) = .returned (.string b) := by rw [h]
/-- Each byte of a rune but the first is 128 or more. -/
theorem decode_tail (s : ByteArray) (i : Nat) (h : i < s.size) : i + (Utf8.decode s i).2 ≤ s.size ∧ ∀ j, 1 ≤ j → j < (Utf8.decode s i).2 → 128 ≤ (s.get! (i + j)).toNat := by
  unfold Utf8.decode
  dsimp only
  split
  · exact ⟨by simp; omega, fun j h1 h2 => by simp at h2; omega⟩
  · split
    · rename_i hc
      simp at hc
      split
      · refine ⟨by simp; omega, fun j h1 h2 => ?_⟩
        simp at h2
        obtain rfl : j = 1 := by omega
        omega
      · exact ⟨by simp; omega, fun j h1 h2 => by simp at h2; omega⟩
    · split
      · rename_i hc
        simp at hc
        split
        · refine ⟨by simp; omega, fun j h1 h2 => ?_⟩
          simp at h2
          obtain rfl | rfl : j = 1 ∨ j = 2 := by omega
          · omega
          · omega
        · exact ⟨by simp; omega, fun j h1 h2 => by simp at h2; omega⟩
      · split
        · rename_i hc
          simp at hc
          split
          · refine ⟨by simp; omega, fun j h1 h2 => ?_⟩
            simp at h2
            obtain rfl | rfl | rfl : j = 1 ∨ j = 2 ∨ j = 3 := by omega
            · omega
            · omega
            · omega
          · exact ⟨by simp; omega, fun j h1 h2 => by simp at h2; omega⟩
        · exact ⟨by simp; omega, fun j h1 h2 => by simp at h2; omega⟩
theorem get!_list (s : ByteArray) (k : Nat) (h : k < s.size) : s.get! k = s.data.toList[k]'(by simpa using h) := by
  show s.data[k]! = _
  rw [getElem!_pos s.data k h]
  rfl
theorem ownsRow_below {w w' : World} {B : Nat} {e : TypeId} {size : Nat} {v : Value} {n : Nat} {xs : List Value} (h : w.ownsRow B e size v n xs) (hb : RowKit.Below w.heap.size w w') : w'.ownsRow B e size v n xs := by
  refine ⟨h.1, ?_⟩
  rcases h.2 with hn | ⟨g, cap, cur, rfl, hB, hg, rest⟩
  · exact .inl hn
  · exact .inr ⟨g, cap, cur, rfl, hB, (hb.block g (Array.getElem?_eq_some_iff.1 hg).1).trans hg, rest⟩
def strs (ls : List (List UInt8)) : List Value := ls.map fun l => Value.string ⟨l.toArray⟩
theorem strs_length (ls : List (List UInt8)) : (strs ls).length = ls.length := by simp [strs]
theorem ext_bytes (s : ByteArray) (g k : Nat) : s.extract g k = ⟨((s.data.toList.drop g).take (k - g)).toArray⟩ := by
  apply ByteArray.ext
  apply Array.ext'
  simp [ByteArray.data_extract, List.extract_eq_take_drop]
theorem strs_get (ls : List (List UInt8)) (i : Nat) (h : i < (strs ls).length) : (strs ls)[i] = .string ⟨(ls[i]'(by simpa [strs] using h)).toArray⟩ := by simp [strs]
/-- The cells of a list that may be read. -/
theorem RowOf.at {w : World} {A : Option Addr} {cap : Nat} {xs : List Value} (h : RowOf w A cap xs) (hne : xs ≠ []) :
    ∃ b off, A = some ⟨b, off, none⟩ ∧ b < w.heap.size ∧ ∀ i (h : i < xs.length), w.cell? ⟨b, off + i, none⟩ = some xs[i] := by
  rcases h.2.2 with h | h
  · exact absurd h hne
  · exact h
theorem toList_ne {s : ByteArray} (h : 0 < s.size) : ¬ s.toList = [] := by
  rw [ByteArray.toList_eq]
  intro e
  have := congrArg List.length e
  rw [List.length_nil, Array.length_toList] at this
  have h2 : s.data.size = s.size := rfl
  omega
theorem toList_empty {s : ByteArray} (h : 0 < s.size) : s.toList.isEmpty = false := by
  rw [List.isEmpty_eq_false_iff]; exact toList_ne h
theorem rowOf_lit (w : World) (t : TypeId) (xs : List Value) (hm : xs.length ≤ maxLen) : RowOf (w.alloc (.cells xs.toArray t)) (some ⟨w.heap.size, 0, none⟩) xs.length xs := by
  refine ⟨Nat.le_refl _, hm, Or.inr ⟨w.heap.size, 0, rfl, by show _ < (w.heap.push _).size; simp, fun i hi => ?_⟩⟩
  rw [Nat.zero_add, cell_of_row _ _ i xs.toArray t (0, 0) (heap_alloc_new w _)]
  simp [hi]
theorem RowOf.alloc {w : World} {A : Option Addr} {cap : Nat} {xs : List Value} (h : RowOf w A cap xs) (o : Obj) : RowOf (w.alloc o) A cap xs :=
  h.below ((Below.refl _ w).alloc (Nat.le_refl _) o)
theorem below_drewN' {B : Nat} {a w : World} (h : Below B a w) (n : Nat) : Below B a (w.drewN n) := ⟨h.os, h.tape, h.output, h.size, h.block⟩
end Go.Proofs.YteihmgcphbijhaaGreatDoor
namespace Go.Proofs.YteihmgcphbijhaaGreatDoor
open Go.RowKit
set_option linter.unusedSimpArgs false
set_option linter.unusedVariables false
theorem addr_add (b off k : Nat) : (⟨b, off, none⟩ : Addr).add k = ⟨b, off + k, none⟩ := by
  unfold Addr.add
  split
  · rename_i h; simp [h]
  · rfl
theorem RowOf.cellAt {w : World} {A : Option Addr} {cap : Nat} {ls : List (List UInt8)} (h : RowOf w A cap (strs ls)) {k : Nat} (hk : k < ls.length) :
    ∃ b off, A = some ⟨b, off, none⟩ ∧ b < w.heap.size ∧ w.cell? ⟨b, off + k, none⟩ = some (.string ⟨ls[k].toArray⟩) := by
  have hne : strs ls ≠ [] := by intro e; have := congrArg List.length e; rw [strs_length, List.length_nil] at this; omega
  obtain ⟨b, off, e, hb, hc⟩ := h.at hne
  have := hc k (by rw [strs_length]; exact hk)
  rw [strs_get] at this
  exact ⟨b, off, e, hb, this⟩
/-- A list of the call's own may be read. -/
theorem RowOf.own {w : World} {B : Nat} {e : TypeId} {v : Value} {n : Nat} {xs : List Value} (h : w.ownsRow B e 1 v n xs) : ∃ A cap, v = .slice A n cap ∧ RowOf w A cap xs ∧ (A = none → n = 0) ∧ ∀ a, A = some a → B ≤ a.block := by
  obtain ⟨hl, h⟩ := h
  rcases h with ⟨rfl, rfl⟩ | ⟨g, cap, cur, rfl, hb, hg, hnc, hcm, hcs, ht⟩
  · refine ⟨none, 0, rfl, ⟨by omega, Nat.zero_le _, Or.inl ?_⟩, fun _ => rfl, fun a h => by cases h⟩
    exact List.eq_nil_of_length_eq_zero (by omega)
  · refine ⟨_, cap, rfl, ⟨by omega, hcm, Or.inr ⟨g, 0, rfl, (Array.getElem?_eq_some_iff.1 hg).1, fun i hi => ?_⟩⟩, fun h => (by cases h), fun a h => by cases h; exact hb⟩
    rw [Nat.zero_add, cell_of_row w g i cur e (0, 0) hg]
    have h2 : xs[i]? = some xs[i] := List.getElem?_eq_getElem hi
    have h3 : (cur.toList.take (n * 1))[i]? = some xs[i] := by rw [ht]; exact h2
    rw [List.getElem?_take] at h3
    split at h3
    · simpa using h3
    · cases h3
theorem RowOf.take {w : World} {A : Option Addr} {cap : Nat} {xs : List Value} (h : RowOf w A cap xs) (k : Nat) : RowOf w A cap (xs.take k) := by
  refine ⟨by have := h.1; rw [List.length_take]; omega, h.2.1, ?_⟩
  rcases h.2.2 with h1 | ⟨b, off, e, hb, hc⟩
  · exact Or.inl (by rw [h1]; simp)
  · refine Or.inr ⟨b, off, e, hb, fun i hi => ?_⟩
    rw [List.length_take] at hi
    rw [List.getElem_take]
    exact hc i (by omega)
end Go.Proofs.YteihmgcphbijhaaGreatDoor
namespace Go.Proofs.YteihmgcphbijhaaGreatDoor
open Go.RowKit
set_option linter.unusedSimpArgs false
set_option linter.unusedVariables false
/-- Where the cells of a list that may be read lie. -/
theorem RowOf.cells {w : World} {ad : Addr} {cap : Nat} {xs : List Value} (h : RowOf w (some ad) cap xs) : ∀ j u, xs[j]? = some u → w.cell? (ad.add j) = some u := by
  intro j u hu
  have hj : j < xs.length := (List.getElem?_eq_some_iff.1 hu).1
  rcases h.2.2 with h | ⟨b, off, e, hb, hc⟩
  · rw [h] at hj; simp at hj
  · cases e
    rw [addr_add, hc j hj, ← hu, List.getElem?_eq_getElem hj]
/-- Two values own no block together. -/
def Apart (v u : Value) : Prop := ∀ g, v.ownBlock = some g → u.ownBlock ≠ some g
theorem Apart.symm {v u : Value} (h : Apart v u) : Apart u v := fun g hu hv => h g hv hu
theorem Apart.ne {v u : Value} (h : Apart v u) : v.ownBlock = none ∨ v.ownBlock ≠ u.ownBlock := by
  cases hv : v.ownBlock with
  | none => exact Or.inl rfl
  | some g => exact Or.inr fun e => h g hv e.symm
/-- Two rows whose elements are of different types lie apart; and a row lies apart from a block of another type. -/
theorem own_ne {w : World} {B : Nat} {e e' : TypeId} {size n : Nat} {v : Value} {xs : List Value} (h : w.ownsRow B e size v n xs) {g : Nat} {cs : Array Value} {fz : Nat × Nat} (hg : w.heap[g]? = some (.cells cs e' fz)) (hne : e ≠ e') : v.ownBlock ≠ some g := by
  rcases h.2 with ⟨rfl, _⟩ | ⟨g', cap, cur, rfl, _, hh, _⟩
  · simp [Value.ownBlock]
  · intro he
    simp [Value.ownBlock] at he
    subst he
    rw [hh] at hg
    injection hg with hg
    injection hg with _ ht
    exact hne ht
theorem own_apart {w : World} {B B' : Nat} {e e' : TypeId} {size size' n n' : Nat} {v u : Value} {xs ys : List Value} (h : w.ownsRow B e size v n xs) (k : w.ownsRow B' e' size' u n' ys) (hne : e ≠ e') : Apart v u := by
  intro g hv hu
  rcases k.2 with ⟨rfl, _⟩ | ⟨g', cap, cur, rfl, _, hh, _⟩
  · simp [Value.ownBlock] at hu
  · simp [Value.ownBlock] at hu
    subst hu
    exact own_ne h hh hne hv
theorem cells_one (w : World) (u : Value) (t : TypeId) : ∀ (j : Nat) (x : Value), [u][j]? = some x → (w.alloc (.cells #[u] t)).cell? ((⟨w.heap.size, 0, none⟩ : Addr).add j) = some x := by
  intro j x hj
  match j, hj with
  | 0, hj =>
    simp at hj
    subst hj
    rw [addr_add, cell_of_row _ _ 0 #[u] t (0, 0) (heap_alloc_new w _)]
    rfl
/-- A store into a block of another type keeps a row. -/
theorem own_set {w : World} {B b : Nat} {cs : Array Value} {t e : TypeId} {fz : Nat × Nat} {v : Value} {n size : Nat} {xs : List Value} (h : w.ownsRow B e size v n xs) (hb : w.heap[b]? = some (.cells cs t fz)) (hne : e ≠ t) (i : Nat) (u : Value) :
    (w.setCell ⟨b, i, none⟩ u).ownsRow B e size v n xs := by
  have h1 := own_ne h hb hne
  refine ⟨h.1, ?_⟩
  rcases h.2 with hn | ⟨g, cap, cur, rfl, hB, hg, rest⟩
  · exact .inl hn
  · refine .inr ⟨g, cap, cur, rfl, hB, ?_, rest⟩
    rw [Below.heap_setCell w ⟨b, i, none⟩ u g (fun e1 => h1 (by rw [show g = b from e1]; rfl))]
    exact hg
theorem own_low {w : World} {B B' : Nat} {e : TypeId} {size n : Nat} {v : Value} {xs : List Value} (h : w.ownsRow B e size v n xs) (hB : B' ≤ B) : w.ownsRow B' e size v n xs := by
  refine ⟨h.1, ?_⟩
  rcases h.2 with hn | ⟨g, cap, cur, rfl, hb, rest⟩
  · exact .inl hn
  · exact .inr ⟨g, cap, cur, rfl, Nat.le_trans hB hb, rest⟩
theorem grownBy_of_below {w w' : World} (h : Below w.heap.size w w') (row : Option Nat) : w.grownBy w' row := ⟨h.os, h.tape, h.output, h.size, fun k hk _ => h.block k hk⟩
theorem results_tmp4 {fn : Func} {t u v x : Tmp} (h : fn.results = #[.tmp t, .tmp u, .tmp v, .tmp x]) (tmps : Array Value) (P : Program) (w : World) :
    (results fn tmps).run P w = .ok (.tuple #[tmps.getD t undef, tmps.getD u undef, tmps.getD v undef, tmps.getD x undef]) w := by
  simp [results, h]
/-- The byte at k, c or not, and the rune there. -/
theorem rune_is (s : ByteArray) (k : Nat) (h : k < s.size) (c : UInt8) (hc : c.toNat < 128) : ((Utf8.decode s k).1 = c.toNat) ↔ s[k] = c := by
  constructor
  · intro e
    by_cases ha : s[k].toNat < 128
    · rw [decode_ascii s k h ha] at e
      exact UInt8.toNat_inj.1 e
    · have := (decode_high s k h (by omega)).1
      omega
  · intro e
    rw [decode_ascii s k h (by rw [e]; exact hc), e]
theorem slice_lo (s : ByteArray) (i : Int) (k : Nat) (e : i = k) (h : k ≤ s.size) (w : World) :
    (Instr.slice 9 (.string s) (some (.int .i64 i)) none none).run Tryz.prog w = .ok (.string (s.extract k s.size)) w := by
  subst e
  rw [run_slice_string_l w 9 s Tryz.underlying9 .i64 (k : Int) (by omega) (by omega)]
  rfl
theorem slice_hi (s : ByteArray) (i : Int) (k : Nat) (e : i = k) (h : k ≤ s.size) (w : World) :
    (Instr.slice 9 (.string s) none (some (.int .i64 i)) none).run Tryz.prog w = .ok (.string (s.extract 0 k)) w := by
  subst e
  rw [run_slice_string_h w 9 s Tryz.underlying9 .i64 (k : Int) (by omega) (by omega)]
  rfl
theorem slice_lohi (s : ByteArray) (i j : Int) (k m : Nat) (e : i = k) (e2 : j = m) (h : k ≤ m) (h2 : m ≤ s.size) (w : World) :
    (Instr.slice 9 (.string s) (some (.int .i64 i)) (some (.int .i64 j)) none).run Tryz.prog w = .ok (.string (s.extract k m)) w := by
  subst e; subst e2
  rw [run_slice_string w 9 s .i64 .i64 (k : Int) (m : Int) Tryz.underlying9 (by omega) (by omega) (by omega)]
  rfl
end Go.Proofs.YteihmgcphbijhaaGreatDoor

namespace Go.Proofs.YteihmgcphbijhaaGreatDoor
open Go.RowKit
set_option linter.unusedSimpArgs false
set_option linter.unusedVariables false
/-- An inline node. -/
structure Iln where
  kd : Int
  dp : Int
  txt : List UInt8
  url : List UInt8
  ttl : List UInt8
deriving DecidableEq, Inhabited
def wordsI (d : Int) (s : List UInt8) : Iln := ⟨1, d, s, [], []⟩
def deepOne (x : Iln) : Iln := { x with dp := IntKind.i64.wrap (x.dp + 1) }
def deepI (l : List Iln) : List Iln := l.map deepOne
/-- One node more, behind nodes that were put together. -/
def mergeOne (out : List Iln) (x : Iln) : List Iln :=
  if x.kd = 1 then
    if x.txt = [] then out
    else match out.getLast? with
      | some y => if y.kd = 1 ∧ y.dp = x.dp then out.dropLast ++ [{ y with txt := y.txt ++ x.txt }] else out ++ [wordsI x.dp x.txt]
      | none => [wordsI x.dp x.txt]
  else out ++ [x]
def mergeI (l : List Iln) : List Iln := l.foldl mergeOne []
def ilText (x : Iln) : List UInt8 := if x.kd = 1 ∨ x.kd = 2 ∨ x.kd = 6 then x.txt else if x.kd = 7 ∨ x.kd = 8 then [32] else []
def textI (l : List Iln) : List UInt8 := l.flatMap ilText
theorem deepI_append (a b : List Iln) : deepI (a ++ b) = deepI a ++ deepI b := by simp [deepI]
theorem textI_append (a b : List Iln) : textI (a ++ b) = textI a ++ textI b := by simp [textI]
theorem textI_cons (a : Iln) (b : List Iln) : textI (a :: b) = ilText a ++ textI b := by simp [textI]
theorem mergeI_append (a b : List Iln) : mergeI (a ++ b) = b.foldl mergeOne (mergeI a) := by simp [mergeI]
theorem mergeI_snoc (a : List Iln) (x : Iln) : mergeI (a ++ [x]) = mergeOne (mergeI a) x := by simp [mergeI]
/-- What one node does to nodes that end with y. -/
theorem mergeOne_snoc (out : List Iln) (y x : Iln) : mergeOne (out ++ [y]) x =
    if x.kd = 1 then (if x.txt = [] then out ++ [y] else if y.kd = 1 ∧ y.dp = x.dp then out ++ [{ y with txt := y.txt ++ x.txt }] else out ++ [y] ++ [wordsI x.dp x.txt]) else out ++ [y] ++ [x] := by
  unfold mergeOne
  simp only [List.getLast?_append, List.getLast?_singleton, Option.some_or, List.dropLast_concat]
theorem mergeOne_nil (x : Iln) : mergeOne [] x = if x.kd = 1 then (if x.txt = [] then [] else [wordsI x.dp x.txt]) else [x] := by
  unfold mergeOne
  simp
theorem mergeOne_ne (p q : List Iln) (hq : q ≠ []) (x : Iln) : mergeOne (p ++ q) x = p ++ mergeOne q x ∧ mergeOne q x ≠ [] := by
  obtain ⟨q', y, rfl⟩ : ∃ q' y, q = q' ++ [y] := ⟨q.dropLast, q.getLast hq, (List.dropLast_concat_getLast hq).symm⟩
  rw [← List.append_assoc, mergeOne_snoc, mergeOne_snoc]
  constructor
  · split
    · split
      · simp
      · split <;> simp
    · simp
  · split
    · split
      · simp
      · split <;> simp
    · simp
theorem foldl_ne (l p q : List Iln) (hq : q ≠ []) : l.foldl mergeOne (p ++ q) = p ++ l.foldl mergeOne q := by
  induction l generalizing q with
  | nil => rfl
  | cons x l ih =>
    have h := mergeOne_ne p q hq x
    simp only [List.foldl_cons]
    rw [h.1, ih _ h.2]
/-- Do nodes that were put together end in words of this depth? -/
def endsAt (p : List Iln) (d : Int) : Bool := match p.getLast? with | some y => y.kd == 1 && y.dp == d | none => false
/-- Do nodes, put together, begin with words of this depth? -/
def beginsAt (l : List Iln) (d : Int) : Bool := match (mergeI l).head? with | some y => y.kd == 1 && y.dp == d | none => false
theorem endsAt_snoc (p : List Iln) (y : Iln) (d : Int) : endsAt (p ++ [y]) d = (y.kd == 1 && y.dp == d) := by simp [endsAt]
theorem mergeOne_head (q : List Iln) (hq : q ≠ []) (x : Iln) : ∀ y, q.head? = some y → ∃ z, (mergeOne q x).head? = some z ∧ z.kd = y.kd ∧ z.dp = y.dp := by
  intro y hy
  obtain ⟨q', u, rfl⟩ : ∃ q' u, q = q' ++ [u] := ⟨q.dropLast, q.getLast hq, (List.dropLast_concat_getLast hq).symm⟩
  rw [mergeOne_snoc]
  cases q' with
  | nil =>
    simp at hy
    subst hy
    split
    · split
      · exact ⟨u, rfl, rfl, rfl⟩
      · split
        · exact ⟨_, rfl, rfl, rfl⟩
        · exact ⟨u, rfl, rfl, rfl⟩
    · exact ⟨u, rfl, rfl, rfl⟩
  | cons v q' =>
    simp at hy
    subst hy
    split
    · split
      · exact ⟨v, rfl, rfl, rfl⟩
      · split <;> exact ⟨v, rfl, rfl, rfl⟩
    · exact ⟨v, rfl, rfl, rfl⟩
theorem foldl_head (l q : List Iln) (hq : q ≠ []) : ∀ y, q.head? = some y → ∃ z, (l.foldl mergeOne q).head? = some z ∧ z.kd = y.kd ∧ z.dp = y.dp := by
  induction l generalizing q with
  | nil => intro y hy; exact ⟨y, hy, rfl, rfl⟩
  | cons x l ih =>
    intro y hy
    have h := mergeOne_ne [] q hq x
    obtain ⟨z, hz, e1, e2⟩ := mergeOne_head q hq x y hy
    obtain ⟨u, hu, f1, f2⟩ := ih (mergeOne q x) h.2 z hz
    exact ⟨u, hu, f1.trans e1, f2.trans e2⟩
/-- Nodes that do not go on with what stands ahead. -/
theorem foldl_apart (l : List Iln) : ∀ (p : List Iln), (∀ d, endsAt p d = true → beginsAt l d = false) → l.foldl mergeOne p = p ++ mergeI l := by
  induction l with
  | nil => intro p _; simp [mergeI]
  | cons x l ih =>
    intro p h
    by_cases hd : x.kd = 1 ∧ x.txt = []
    · have e1 : ∀ q, mergeOne q x = q := fun q => by unfold mergeOne; rw [if_pos hd.1, if_pos hd.2]
      have e2 : mergeI (x :: l) = mergeI l := by simp [mergeI, e1]
      rw [List.foldl_cons, e1, e2]
      refine ih p (fun d hd' => ?_)
      have := h d hd'
      unfold beginsAt at this ⊢
      rw [e2] at this
      exact this
    · have e0 : ∃ z, mergeOne [] x = [z] ∧ z.kd = x.kd ∧ z.dp = x.dp := by
        rw [mergeOne_nil]
        split
        · next hk =>
          rw [if_neg (fun ht => hd ⟨hk, ht⟩)]
          exact ⟨_, rfl, hk.symm, rfl⟩
        · exact ⟨_, rfl, rfl, rfl⟩
      obtain ⟨z, hz, z1, z2⟩ := e0
      have hM : mergeI (x :: l) = l.foldl mergeOne [z] := by simp only [mergeI, List.foldl_cons, hz]
      have hp : mergeOne p x = p ++ [z] := by
        rcases List.eq_nil_or_concat p with rfl | ⟨p', y, rfl⟩
        · exact hz
        · rw [List.concat_eq_append] at h ⊢
          rw [mergeOne_snoc]
          have hz' := hz
          rw [mergeOne_nil] at hz'
          split
          · next hk =>
            have ht : x.txt ≠ [] := fun ht => hd ⟨hk, ht⟩
            rw [if_pos hk, if_neg ht] at hz'
            rw [if_neg ht, if_neg]
            · cases hz'; rfl
            · rintro ⟨y1, y2⟩
              have hb := h y.dp (by rw [endsAt_snoc]; simp [y1])
              obtain ⟨u, hu, u1, u2⟩ := foldl_head l [z] (by simp) z rfl
              unfold beginsAt at hb
              rw [hM, hu] at hb
              simp [u1, u2, z1, z2, hk, y2] at hb
          · next hk =>
            rw [if_neg hk] at hz'
            cases hz'; rfl
      rw [List.foldl_cons, hp, foldl_ne l p [z] (by simp), hM]
/-- What was put together: no words are empty, none stand side by side, words have no url and no title. -/
def Merged (l : List Iln) : Prop := (∀ x ∈ l, x.kd = 1 → x.txt ≠ [] ∧ x.url = [] ∧ x.ttl = []) ∧ ∀ p a b q, l = p ++ a :: b :: q → ¬ (a.kd = 1 ∧ b.kd = 1 ∧ a.dp = b.dp)
theorem merged_snoc {l : List Iln} (h : Merged l) (x : Iln) (h1 : x.kd = 1 → x.txt ≠ [] ∧ x.url = [] ∧ x.ttl = []) (h2 : x.kd = 1 → endsAt l x.dp = false) : Merged (l ++ [x]) := by
  refine ⟨fun y hy => ?_, fun p a b q e => ?_⟩
  · rcases List.mem_append.1 hy with hy | hy
    · exact h.1 y hy
    · simp at hy; subst hy; exact h1
  · rcases List.eq_nil_or_concat q with rfl | ⟨q', z, rfl⟩
    · have e' : l ++ [x] = (p ++ [a]) ++ [b] := by rw [e]; simp
      obtain ⟨rfl, e2⟩ := List.append_inj' e' rfl
      cases e2
      rintro ⟨a1, b1, ab⟩
      have := h2 b1
      rw [endsAt_snoc] at this
      simp [a1, ab] at this
    · rw [List.concat_eq_append] at e
      have e' : l ++ [x] = (p ++ a :: b :: q') ++ [z] := by rw [e]; simp
      obtain ⟨rfl, _⟩ := List.append_inj' e' rfl
      exact h.2 p a b q' rfl
theorem merged_front {l : List Iln} {x : Iln} (h : Merged (l ++ [x])) : Merged l :=
  ⟨fun y hy => h.1 y (List.mem_append_left _ hy), fun p a b q e => h.2 p a b (q ++ [x]) (by rw [e]; simp)⟩
theorem merged_last {l : List Iln} {x : Iln} (h : Merged (l ++ [x])) : (x.kd = 1 → x.txt ≠ [] ∧ x.url = [] ∧ x.ttl = []) ∧ (x.kd = 1 → endsAt l x.dp = false) := by
  refine ⟨h.1 x (by simp), fun hk => ?_⟩
  rcases List.eq_nil_or_concat l with rfl | ⟨l', y, rfl⟩
  · rfl
  · rw [List.concat_eq_append] at h ⊢
    rw [endsAt_snoc]
    have := h.2 l' y x [] (by simp)
    cases hb : (y.kd == 1 && y.dp == x.dp) with
    | false => rfl
    | true => simp at hb; exact absurd ⟨hb.1, hk, hb.2⟩ this
theorem mergeOne_merged {l : List Iln} (h : Merged l) (x : Iln) : Merged (mergeOne l x) := by
  rcases List.eq_nil_or_concat l with rfl | ⟨l', y, rfl⟩
  · rw [mergeOne_nil]
    split
    · split
      · exact h
      · next hk ht => exact merged_snoc (l := []) h (wordsI x.dp x.txt) (fun _ => ⟨ht, rfl, rfl⟩) (fun _ => rfl)
    · next hk => exact merged_snoc (l := []) h x (fun e => absurd e hk) (fun e => absurd e hk)
  · rw [List.concat_eq_append] at h ⊢
    rw [mergeOne_snoc]
    split
    · next hk =>
      split
      · exact h
      · next ht =>
        split
        · next hy =>
          have hl := merged_last h
          have hl1 := hl.1 hy.1
          exact merged_snoc (merged_front h) _ (fun _ => ⟨fun e => ht (List.append_eq_nil_iff.1 e).2, hl1.2⟩) (fun _ => hl.2 hy.1)
        · next hy => exact merged_snoc h _ (fun _ => ⟨ht, rfl, rfl⟩) (fun _ => by rw [endsAt_snoc]; simpa [wordsI] using hy)
    · next hk => exact merged_snoc h x (fun e => absurd e hk) (fun e => absurd e hk)
theorem foldl_merged (l : List Iln) : ∀ {p : List Iln}, Merged p → Merged (l.foldl mergeOne p) := by
  induction l with
  | nil => intro p h; exact h
  | cons x l ih => intro p h; exact ih (mergeOne_merged h x)
theorem merged_nil : Merged [] := ⟨by simp, fun p a b q e => by simp at e⟩
theorem mergeI_merged (l : List Iln) : Merged (mergeI l) := foldl_merged l merged_nil
theorem mergeI_same {l : List Iln} (h : Merged l) : mergeI l = l := by
  suffices ∀ (n : Nat) (l : List Iln), l.length = n → Merged l → mergeI l = l from this _ l rfl h
  intro n
  induction n with
  | zero => intro l hl _; rw [List.eq_nil_of_length_eq_zero hl]; rfl
  | succ n ih =>
    intro l hl h
    rcases List.eq_nil_or_concat l with rfl | ⟨l', y, rfl⟩
    · rfl
    · rw [List.concat_eq_append] at h hl ⊢
      rw [mergeI_snoc, ih l' (by simpa using hl) (merged_front h)]
      have hy := merged_last h
      rcases List.eq_nil_or_concat l' with rfl | ⟨l'', z, rfl⟩
      · rw [mergeOne_nil]
        split
        · next hk =>
          have := hy.1 hk
          rw [if_neg this.1]
          obtain ⟨kd, dp, txt, url, ttl⟩ := y
          simp at hk this ⊢
          simp [wordsI, hk, this]
        · rfl
      · rw [List.concat_eq_append] at hy ⊢
        rw [mergeOne_snoc]
        split
        · next hk =>
          have h1 := hy.1 hk
          have h2 := hy.2 hk
          rw [endsAt_snoc] at h2
          rw [if_neg h1.1, if_neg (by intro e; simp [e] at h2)]
          obtain ⟨kd, dp, txt, url, ttl⟩ := y
          simp at hk h1 ⊢
          simp [wordsI, hk, h1]
        · rfl
theorem mergeOne_text (out : List Iln) (x : Iln) : textI (mergeOne out x) = textI out ++ ilText x := by
  rcases List.eq_nil_or_concat out with rfl | ⟨l', y, rfl⟩
  · rw [mergeOne_nil]
    split
    · next hk =>
      split
      · next ht => simp [textI, ilText, hk, ht]
      · simp [textI, ilText, hk, wordsI]
    · simp [textI]
  · rw [List.concat_eq_append, mergeOne_snoc]
    split
    · next hk =>
      split
      · next ht => simp [ilText, hk, ht]
      · split
        · next hy => simp [textI, ilText, hk, hy.1]
        · simp [textI, ilText, hk, wordsI]
    · simp [textI]
theorem mergeI_text (l : List Iln) : textI (mergeI l) = textI l := by
  suffices ∀ (l p : List Iln), textI (l.foldl mergeOne p) = textI p ++ textI l from by have := this l []; simpa [textI, mergeI] using this
  intro l
  induction l with
  | nil => intro p; simp [textI]
  | cons x l ih => intro p; rw [List.foldl_cons, ih, mergeOne_text, textI_cons, List.append_assoc]
def SmallD (l : List Iln) : Prop := ∀ x ∈ l, 0 ≤ x.dp ∧ x.dp ≤ 1000000
theorem wrap_small {d : Int} (h : 0 ≤ d) (h' : d ≤ 1000000) : IntKind.i64.wrap (d + 1) = d + 1 := by
  exact IntWalk.i64_in _ (by omega)
end Go.Proofs.YteihmgcphbijhaaGreatDoor

namespace Go.Proofs.YteihmgcphbijhaaGreatDoor
open Go.RowKit
set_option linter.unusedSimpArgs false
set_option linter.unusedVariables false
/-- Nodes (sg = 0), or a row of signs: n of them are left, 'ff' were there at first. -/
structure Itm where
  sg : UInt8
  n : Int
  ff : Int
  op : Bool
  cl : Bool
  nd : List Iln
deriving DecidableEq, Inhabited
def leftI (x : Itm) : List Iln := if x.sg = 0 then x.nd else [wordsI 0 (List.replicate x.n.toNat x.sg)]
def allI (l : List Itm) : List Iln := l.flatMap leftI
def canClose (c : Itm) : Bool := c.sg != 0 && c.cl && decide (0 < c.n)
def canOpen (o c : Itm) : Bool := o.sg == c.sg && o.op && decide (0 < o.n) && !((o.op && o.cl || c.op && c.cl) && (o.ff + c.ff).tmod 3 == 0 && (o.ff.tmod 3 != 0 || c.ff.tmod 3 != 0))
/-- The nearest one ahead (l: nearest first) that it may be paired with: what lies between (nearest first), itself, what stands ahead. -/
def openerI (c : Itm) : List Itm → Option (List Itm × Itm × List Itm)
  | [] => none
  | o :: l => if canOpen o c then some ([], o, l) else match openerI c l with
    | some (m, o', l') => some (o :: m, o', l')
    | none => none
def kOf (o c : Itm) : Int := if 2 ≤ o.n ∧ 2 ≤ c.n then 2 else 1
def nodeI (k : Int) (l : List Iln) : Itm := ⟨0, 0, 0, false, false, ⟨if k = 2 then 4 else 3, 0, [], [], []⟩ :: deepI l⟩
def lessI (o : Itm) (k : Int) : Itm := { o with n := o.n - k }
/-- l: what is done, nearest first; r: what comes. -/
def groupGo : Nat → List Itm → List Itm → List Itm
  | 0, l, r => l.reverse ++ r
  | _ + 1, l, [] => l.reverse
  | f + 1, l, c :: r =>
    if canClose c then
      match openerI c l with
      | none => groupGo f (c :: l) r
      | some (m, o, l') => groupGo f (nodeI (kOf o c) (allI m.reverse) :: lessI o (kOf o c) :: l') (lessI c (kOf o c) :: r)
    else groupGo f (c :: l) r
/-- How many signs are left. -/
def signsI (l : List Itm) : Nat := (l.map fun x => x.n.toNat).sum
def fuelI (l : List Itm) : Nat := l.length + signsI l
def groupI (l : List Itm) : List Iln := mergeI (allI (groupGo (fuelI l) [] l))
theorem allI_append (a b : List Itm) : allI (a ++ b) = allI a ++ allI b := by simp [allI]
theorem allI_cons (a : Itm) (b : List Itm) : allI (a :: b) = leftI a ++ allI b := by simp [allI]
theorem signsI_append (a b : List Itm) : signsI (a ++ b) = signsI a + signsI b := by simp [signsI]
theorem signsI_cons (a : Itm) (b : List Itm) : signsI (a :: b) = a.n.toNat + signsI b := by simp [signsI]
theorem signsI_reverse (a : List Itm) : signsI a.reverse = signsI a := by
  induction a with
  | nil => rfl
  | cons x a ih => rw [List.reverse_cons, signsI_append, ih, signsI_cons, signsI_cons]; simp [signsI]; omega
theorem openerI_some {c o : Itm} {l m l' : List Itm} (h : openerI c l = some (m, o, l')) : l = m ++ o :: l' ∧ canOpen o c = true ∧ ∀ x ∈ m, canOpen x c = false := by
  induction l generalizing m with
  | nil => cases h
  | cons x l ih =>
    unfold openerI at h
    split at h
    · cases h
      exact ⟨rfl, by assumption, by simp⟩
    · next hx =>
      split at h
      · next m2 o2 l2 he =>
        cases h
        obtain ⟨e, h1, h2⟩ := ih he
        refine ⟨by rw [e]; rfl, h1, fun y hy => ?_⟩
        rcases List.mem_cons.1 hy with rfl | hy
        · simpa using hx
        · exact h2 y hy
      · cases h
theorem openerI_is {c o : Itm} {m l' : List Itm} (ho : canOpen o c = true) (hm : ∀ x ∈ m, canOpen x c = false) : openerI c (m ++ o :: l') = some (m, o, l') := by
  induction m with
  | nil => simp [openerI, ho]
  | cons x m ih => simp [openerI, hm x (by simp), ih (fun y hy => hm y (by simp [hy]))]
theorem openerI_no {c : Itm} {l : List Itm} (h : ∀ x ∈ l, canOpen x c = false) : openerI c l = none := by
  induction l with
  | nil => rfl
  | cons x l ih => simp [openerI, h x (by simp), ih (fun y hy => h y (by simp [hy]))]
theorem canOpen_pos {o c : Itm} (h : canOpen o c = true) : 0 < o.n ∧ o.sg = c.sg ∧ o.op = true := by
  simp [canOpen] at h
  exact ⟨h.1.2, h.1.1.1, h.1.1.2⟩
theorem canClose_pos {c : Itm} (h : canClose c = true) : 0 < c.n ∧ c.sg ≠ 0 ∧ c.cl = true := by
  simp [canClose] at h
  exact ⟨h.2, h.1.1, h.1.2⟩
theorem kOf_is (o c : Itm) (ho : 0 < o.n) (hc : 0 < c.n) : (kOf o c = 1 ∨ kOf o c = 2) ∧ kOf o c ≤ o.n ∧ kOf o c ≤ c.n := by
  unfold kOf
  split <;> omega
/-- More fuel than is wanted changes nothing. -/
theorem groupGo_more : ∀ (f g : Nat) (l r : List Itm), r.length + signsI (l ++ r) ≤ f → f ≤ g → groupGo g l r = groupGo f l r
  | 0, g, l, r, h, _ => by
    have hr : r = [] := List.eq_nil_of_length_eq_zero (by omega)
    subst hr
    cases g <;> simp [groupGo]
  | f + 1, 0, l, r, h, hg => by omega
  | f + 1, g + 1, l, [], h, hg => rfl
  | f + 1, g + 1, l, c :: r, h, hg => by
    have hlen : (c :: r).length = r.length + 1 := rfl
    rw [signsI_append, signsI_cons] at h
    simp only [groupGo]
    split
    · next hc =>
      have hc0 := canClose_pos hc
      split
      · exact groupGo_more f g _ _ (by rw [signsI_append, signsI_cons]; omega) (by omega)
      · next m o l' he =>
        obtain ⟨rfl, ho, _⟩ := openerI_some he
        have ho0 := canOpen_pos ho
        have hk := kOf_is o c ho0.1 hc0.1
        rw [signsI_append, signsI_cons] at h
        refine groupGo_more f g _ _ ?_ (by omega)
        rw [signsI_append, signsI_cons, signsI_cons, signsI_cons]
        simp only [nodeI, lessI, List.length_cons]
        simp only [List.length_cons] at h
        have e0 : ((0 : Int)).toNat = 0 := rfl
        omega
    · exact groupGo_more f g _ _ (by rw [signsI_append, signsI_cons]; omega) (by omega)
/-- Rows that may not close stay. -/
theorem groupGo_stay : ∀ (r l : List Itm) (f : Nat), (∀ c ∈ r, canClose c = false) → r.length ≤ f → groupGo f l r = l.reverse ++ r
  | [], l, f, _, _ => by cases f <;> simp [groupGo]
  | c :: r, l, 0, _, h => by simp at h
  | c :: r, l, f + 1, hc, h => by
    simp only [groupGo]
    rw [if_neg (by rw [hc c (by simp)]; simp), groupGo_stay r (c :: l) f (fun x hx => hc x (by simp [hx])) (by simpa using h)]
    simp
end Go.Proofs.YteihmgcphbijhaaGreatDoor

namespace Go.Proofs.YteihmgcphbijhaaGreatDoor
open Go.RowKit
def inB (x a b : Int) : Bool := decide (a ≤ x) && decide (x ≤ b)
theorem inB_t {x a b : Int} (h1 : a ≤ x) (h2 : x ≤ b) : inB x a b = true := by simp [inB, h1, h2]
theorem inB_f {x a b : Int} (h : ¬ (a ≤ x ∧ x ≤ b)) : inB x a b = false := by simp [inB]; omega
theorem inB_iff (x a b : Int) : inB x a b = true ↔ a ≤ x ∧ x ≤ b := by simp [inB]
def asciiB (c : Int) : Bool := inB c 33 47 || inB c 58 64 || inB c 91 96 || inB c 123 126
theorem within8 (x a b : Int) (w : World) :
    Calls Tryz.prog 95 #[.int .u8 x, .int .u8 a, .int .u8 b] w fun e w' => e = .returned (.bool (inB x a b)) ∧ w = w' := by
  by_cases h1 : a ≤ x
  · go_enter Tryz.func95, Tryz.ntmps95
    go_wp2
    go_ret
    exact ⟨ret_bool (by simp [inB, h1]), rfl⟩
  · go_enter Tryz.func95, Tryz.ntmps95
    go_wp2
    go_ret
    exact ⟨ret_bool (inB_f (by omega)).symm, rfl⟩
theorem ascii_any (c : Int) (w : World) :
    Calls Tryz.prog 67 #[.int .u8 c] w fun e w' => e = .returned (.bool (asciiB c)) ∧ w = w' := by
  go_enter Tryz.func67, Tryz.ntmps67
  go_wp2_with (go_at_call 95; refine (within8 _ _ _ _).mono ?_; rintro e w' ⟨rfl, rfl⟩)
  all_goals (go_ret; exact ⟨ret_bool (by simp [asciiB, *]), rfl⟩)
end Go.Proofs.YteihmgcphbijhaaGreatDoor

namespace Go.Proofs.YteihmgcphbijhaaGreatDoor
open Go.RowKit
theorem width_pos (s : ByteArray) (pos : Nat) (h : pos < s.size) : 1 ≤ (Utf8.decode s pos).2 := by
  by_cases ha : (s[pos]'h).toNat < 128
  · rw [decode_ascii s pos h ha]
    exact Nat.le_refl _
  · exact (decode_high s pos h (by omega)).2
theorem cells_rune (acc : List UInt8) (r : Int) : Lib.byteCells (acc ++ Lib.encodeRune r) = Lib.byteCells acc ++ Lib.runeCells r := by
  rw [Lib.byteCells_append, Lib.byteCells_encodeRune]
end Go.Proofs.YteihmgcphbijhaaGreatDoor

namespace Go.Proofs.YteihmgcphbijhaaGreatDoor
set_option linter.unusedSimpArgs false
set_option linter.unusedVariables false
/-- A byte that goes on within a rune. -/
def goesOn (b : UInt8) : Bool := b.toNat / 64 == 2
/-- The model's reading of one rune, over a list. -/
def dec (l : List UInt8) : Nat × Nat :=
  let at' (k : Nat) : Nat := (l.getD k 0).toNat
  let cont (k : Nat) : Bool := k < l.length && at' k / 64 == 2
  let b0 := at' 0
  if b0 < 0x80 then (b0, 1)
  else if b0 / 32 == 6 && cont 1 then
    let c := (b0 % 32) * 64 + at' 1 % 64
    if c ≥ 0x80 then (c, 2) else (65533, 1)
  else if b0 / 16 == 14 && cont 1 && cont 2 then
    let c := (b0 % 16) * 4096 + (at' 1 % 64) * 64 + at' 2 % 64
    if c ≥ 0x800 && Utf8.valid c then (c, 3) else (65533, 1)
  else if b0 / 8 == 30 && cont 1 && cont 2 && cont 3 then
    let c := (b0 % 8) * 262144 + (at' 1 % 64) * 4096 + (at' 2 % 64) * 64 + at' 3 % 64
    if c ≥ 0x10000 && Utf8.valid c then (c, 4) else (65533, 1)
  else (65533, 1)
theorem get_drop (s : ByteArray) (i k : Nat) : s.get! (i + k) = (s.data.toList.drop i).getD k 0 := by
  rw [List.getD_eq_getElem?_getD, List.getElem?_drop]
  show s.data[i + k]! = _
  rw [Array.getElem!_eq_getD, Array.getD_eq_getD_getElem?]
  simp
  rfl
theorem size_drop (s : ByteArray) (i k : Nat) : (i + k < s.size) ↔ k < (s.data.toList.drop i).length := by
  have : s.data.toList.length = s.size := by simp
  rw [List.length_drop, this]
  omega
theorem decode_dec (s : ByteArray) (i : Nat) : Utf8.decode s i = dec (s.data.toList.drop i) := by
  unfold Utf8.decode dec
  simp only [get_drop, size_drop, Utf8.runeError]
/-- What goes on, at a list's beginning. -/
def run (l : List UInt8) : List UInt8 := l.takeWhile goesOn
theorem dec_ascii (b : UInt8) (l : List UInt8) (h : b.toNat < 128) : dec (b :: l) = (b.toNat, 1) := by
  simp [dec, h]
theorem dec_width (b : UInt8) (l : List UInt8) : 1 ≤ (dec (b :: l)).2 ∧ (dec (b :: l)).2 ≤ l.length + 1 := by
  unfold dec
  simp only [List.length_cons]
  split
  · simp
  · split
    · rename_i h
      simp at h
      split
      · simp; omega
      · simp
    · split
      · rename_i h
        simp at h
        split
        · simp; omega
        · simp
      · split
        · rename_i h
          simp at h
          split
          · simp; omega
          · simp
        · simp
theorem valid_of (c : Nat) (h : c < 55296 ∨ (57344 ≤ c ∧ c ≤ 1114111)) : Utf8.valid c = true := by
  simp [Utf8.valid]; omega
theorem of_valid (c : Nat) (h : Utf8.valid c = true) : c < 55296 ∨ (57344 ≤ c ∧ c ≤ 1114111) := by
  simp [Utf8.valid] at h; omega
theorem dec_valid (l : List UInt8) : Utf8.valid (dec l).1 = true := by
  unfold dec
  dsimp only
  split
  · exact valid_of _ (by omega)
  · split
    · split
      · exact valid_of _ (by omega)
      · exact valid_of _ (by omega)
    · split
      · split
        · rename_i h; simp at h; exact h.2
        · exact valid_of _ (by omega)
      · split
        · split
          · rename_i h; simp at h; exact h.2
          · exact valid_of _ (by omega)
        · exact valid_of _ (by omega)
def segsF : Nat → List UInt8 → List (Nat × List UInt8)
  | 0, _ => []
  | _ + 1, [] => []
  | f + 1, b :: l => ((dec (b :: l)).1, (b :: l).take (dec (b :: l)).2) :: segsF f ((b :: l).drop (dec (b :: l)).2)
def segs (l : List UInt8) : List (Nat × List UInt8) := segsF l.length l
theorem segsF_more : ∀ (f g : Nat) (l : List UInt8), l.length ≤ f → l.length ≤ g → segsF f l = segsF g l
  | 0, 0, _, _, _ => rfl
  | 0, g + 1, [], _, _ => rfl
  | f + 1, 0, [], _, _ => rfl
  | f + 1, g + 1, [], _, _ => rfl
  | f + 1, g + 1, b :: l, hf, hg => by
    have hw := dec_width b l
    simp only [List.length_cons] at hf hg
    simp only [segsF]
    rw [segsF_more f g _ (by rw [List.length_drop, List.length_cons]; omega) (by rw [List.length_drop, List.length_cons]; omega)]
theorem segs_cons (b : UInt8) (l : List UInt8) : segs (b :: l) = ((dec (b :: l)).1, (b :: l).take (dec (b :: l)).2) :: segs ((b :: l).drop (dec (b :: l)).2) := by
  have hw := dec_width b l
  show segsF (l.length + 1) (b :: l) = _
  simp only [segsF, segs]
  rw [segsF_more _ _ _ (by rw [List.length_drop, List.length_cons]; omega) (Nat.le_refl _)]
/-- Nothing goes on at this list's beginning. -/
def fresh (m : List UInt8) : Prop := ∀ x ∈ m.head?, goesOn x = false
theorem u8 (n : Nat) (h : n < 256) : (n.toUInt8).toNat = n := by simp; omega
theorem enc1 (n : Nat) (h : n < 128) : Lib.encodeRune n = [n.toUInt8] := by
  unfold Lib.encodeRune
  rw [Lib.encodeRuneZ_one (by omega) (by omega)]
  simp
theorem enc2 (n : Nat) (h : 128 ≤ n) (h2 : n < 2048) : Lib.encodeRune n = [(192 + n / 64).toUInt8, (128 + n % 64).toUInt8] := by
  unfold Lib.encodeRune
  rw [Lib.encodeRuneZ_two (by omega) (by omega)]
  simp only [List.map_cons, List.map_nil]
  rw [show (192 + (n : Int) / 64).toNat = 192 + n / 64 from by omega, show (128 + (n : Int) % 64).toNat = 128 + n % 64 from by omega]
theorem enc3 (n : Nat) (h : (2048 ≤ n ∧ n < 55296) ∨ (57344 ≤ n ∧ n < 65536)) : Lib.encodeRune n = [(224 + n / 4096).toUInt8, (128 + n / 64 % 64).toUInt8, (128 + n % 64).toUInt8] := by
  unfold Lib.encodeRune
  rw [Lib.encodeRuneZ_three (by omega)]
  simp only [List.map_cons, List.map_nil]
  rw [show (224 + (n : Int) / 4096).toNat = 224 + n / 4096 from by omega, show (128 + (n : Int) / 64 % 64).toNat = 128 + n / 64 % 64 from by omega, show (128 + (n : Int) % 64).toNat = 128 + n % 64 from by omega]
theorem enc4 (n : Nat) (h : 65536 ≤ n) (h2 : n ≤ 1114111) : Lib.encodeRune n = [(240 + n / 262144).toUInt8, (128 + n / 4096 % 64).toUInt8, (128 + n / 64 % 64).toUInt8, (128 + n % 64).toUInt8] := by
  unfold Lib.encodeRune
  rw [Lib.encodeRuneZ_four (by omega) (by omega)]
  simp only [List.map_cons, List.map_nil]
  rw [show (240 + (n : Int) / 262144).toNat = 240 + n / 262144 from by omega, show (128 + (n : Int) / 4096 % 64).toNat = 128 + n / 4096 % 64 from by omega, show (128 + (n : Int) / 64 % 64).toNat = 128 + n / 64 % 64 from by omega, show (128 + (n : Int) % 64).toNat = 128 + n % 64 from by omega]
theorem dec_enc (n : Nat) (hv : Utf8.valid n = true) (m : List UInt8) : dec (Lib.encodeRune n ++ m) = (n, (Lib.encodeRune n).length) := by
  have hv' := of_valid n hv
  by_cases h1 : n < 128
  · rw [enc1 n h1]
    show dec (_ :: m) = _
    rw [dec_ascii _ _ (by rw [u8 _ (by omega)]; exact h1), u8 _ (by omega)]
    rfl
  · by_cases h2 : n < 2048
    · rw [enc2 n (by omega) h2]
      have a := u8 (192 + n / 64) (by omega)
      have b := u8 (128 + n % 64) (by omega)
      generalize (192 + n / 64).toUInt8 = x at *
      generalize (128 + n % 64).toUInt8 = y at *
      simp only [dec, List.cons_append, List.nil_append, List.getD_cons_zero, List.getD_cons_succ, List.length_cons, List.length_nil, a, b]
      have e : (192 + n / 64) % 32 * 64 + (128 + n % 64) % 64 = n := by omega
      rw [if_neg (by omega), if_pos (by simp; omega), e, if_pos (by omega)]
    · by_cases h3 : n < 65536
      · rw [enc3 n (by omega)]
        have a := u8 (224 + n / 4096) (by omega)
        have b := u8 (128 + n / 64 % 64) (by omega)
        have c := u8 (128 + n % 64) (by omega)
        generalize (224 + n / 4096).toUInt8 = x at *
        generalize (128 + n / 64 % 64).toUInt8 = y at *
        generalize (128 + n % 64).toUInt8 = z at *
        simp only [dec, List.cons_append, List.nil_append, List.getD_cons_zero, List.getD_cons_succ, List.length_cons, List.length_nil, a, b, c]
        have e : (224 + n / 4096) % 16 * 4096 + (128 + n / 64 % 64) % 64 * 64 + (128 + n % 64) % 64 = n := by omega
        rw [if_neg (by omega), if_neg (by simp; omega), if_pos (by simp; omega), e, if_pos (by simp [hv]; omega)]
      · rw [enc4 n (by omega) (by omega)]
        have a := u8 (240 + n / 262144) (by omega)
        have b := u8 (128 + n / 4096 % 64) (by omega)
        have c := u8 (128 + n / 64 % 64) (by omega)
        have d := u8 (128 + n % 64) (by omega)
        generalize (240 + n / 262144).toUInt8 = x at *
        generalize (128 + n / 4096 % 64).toUInt8 = y at *
        generalize (128 + n / 64 % 64).toUInt8 = z at *
        generalize (128 + n % 64).toUInt8 = u at *
        simp only [dec, List.cons_append, List.nil_append, List.getD_cons_zero, List.getD_cons_succ, List.length_cons, List.length_nil, a, b, c, d]
        have e : (240 + n / 262144) % 8 * 262144 + (128 + n / 4096 % 64) % 64 * 4096 + (128 + n / 64 % 64) % 64 * 64 + (128 + n % 64) % 64 = n := by omega
        rw [if_neg (by omega), if_neg (by simp; omega), if_neg (by simp; omega), if_pos (by simp; omega), e, if_pos (by simp [hv]; omega)]
end Go.Proofs.YteihmgcphbijhaaGreatDoor

namespace Go.Proofs.YteihmgcphbijhaaGreatDoor
open Go.RowKit
set_option linter.unusedVariables false
def spaceB (r : Int) : Bool := r == 9 || r == 10 || r == 12 || r == 13 || r == 32 || r == 160 || r == 5760 || r == 8239 || r == 8287 || r == 12288 || inB r 8192 8202
def punctB (r : Int) : Bool := if inB r 0 127 then asciiB r else r == 161 || r == 167 || r == 171 || r == 182 || r == 183 || r == 187 || r == 191 || r == 8364 || (inB r 8208 8231 || inB r 8240 8259 || inB r 12289 12305)
def smallI (r : Int) : Int := if inB r 65 90 || (inB r 192 222 && r != 215) then r + 32 else r
def leftB (b a : Int) : Bool := !spaceB a && (!punctB a || spaceB b || punctB b)
def opensB (c b a : Int) : Bool := if c = 42 then leftB b a else if c = 95 then leftB b a && (!leftB a b || punctB b) else false
def shownI (r : Int) : Int := if r = 0 then 97 else r
/-- What is beside the place k of a text, read from 'pos' on, when 'last' was read ahead of it; 'e': the place is the whole text's end. -/
def bsFrom (z : ByteArray) (k : Nat) (e : Bool) : Nat → Nat → Int → Int × Int
  | 0, _, last => if e then (last, 10) else (10, 10)
  | f + 1, pos, last => if pos < z.size then (if pos = k then (last, shownI (Utf8.decode z pos).1) else bsFrom z k e f (pos + (Utf8.decode z pos).2) (shownI (Utf8.decode z pos).1)) else if e then (last, 10) else (10, 10)
def bsB (s : ByteArray) (at' : Int) : Int × Int :=
  if at' < 0 ∨ s.size < at' then (10, 10)
  else bsFrom (s.extract (at'.toNat - 4) (min s.size (at'.toNat + 4))) (at'.toNat - (at'.toNat - 4)) (at'.toNat == s.size) (s.extract (at'.toNat - 4) (min s.size (at'.toNat + 4))).size 0 10
theorem bsFrom_end (z : ByteArray) (k : Nat) (e : Bool) (f pos : Nat) (last : Int) (h : ¬ pos < z.size) : bsFrom z k e f pos last = if e then (last, 10) else (10, 10) := by
  cases f with
  | zero => rfl
  | succ f => simp [bsFrom, h]
theorem decode_fits (s : ByteArray) (pos : Nat) : ((Utf8.decode s pos).1 : Int) ≤ 1114111 := by
  have := dec_valid (s.data.toList.drop pos)
  rw [← decode_dec] at this
  have := of_valid _ this
  omega
theorem bsB_out (s : ByteArray) (a : Int) (h : a < 0 ∨ (s.size : Int) < a) : bsB s a = (10, 10) := by unfold bsB; rw [if_pos h]
theorem bsB_in (s : ByteArray) (k : Nat) (h : k ≤ s.size) : bsB s k = bsFrom (s.extract (k - 4) (min s.size (k + 4))) (k - (k - 4)) (k == s.size) (s.extract (k - 4) (min s.size (k + 4))).size 0 10 := by
  unfold bsB
  rw [if_neg (by omega)]
  rfl
theorem bsFrom_hit {z : ByteArray} {k f pos : Nat} {e : Bool} {last : Int} {out : Int × Int} (hp : pos < z.size) (hk : pos = k) (h : bsFrom z k e (f + 1) pos last = out) : out = (last, shownI (Utf8.decode z pos).1) := by
  subst hk; rw [← h]; unfold bsFrom; rw [if_pos hp, if_pos rfl]
theorem bsFrom_on {z : ByteArray} {k f pos : Nat} {e : Bool} {last : Int} {out : Int × Int} (hp : pos < z.size) (hk : ¬ pos = k) (h : bsFrom z k e (f + 1) pos last = out) : bsFrom z k e f (pos + (Utf8.decode z pos).2) (shownI (Utf8.decode z pos).1) = out := by
  rw [← h]; simp [bsFrom, hp, hk]
def aroundB (s : ByteArray) (a b : Int) : Int × Int := ((bsB s a).1, (bsB s b).2)
theorem small_space (x : Int) (h : 97 ≤ x) (h' : x ≤ 122) : spaceB x = false := by
  simp [spaceB, inB]; omega
theorem small_punct (x : Int) (h : 97 ≤ x) (h' : x ≤ 122) : punctB x = false := by
  unfold punctB asciiB
  rw [inB_t (a := 0) (b := 127) (by omega) (by omega), inB_f (a := 33) (b := 47) (by omega), inB_f (a := 58) (b := 64) (by omega), inB_f (a := 91) (b := 96) (by omega), inB_f (a := 123) (b := 126) (by omega)]
  rfl
end Go.Proofs.YteihmgcphbijhaaGreatDoor
