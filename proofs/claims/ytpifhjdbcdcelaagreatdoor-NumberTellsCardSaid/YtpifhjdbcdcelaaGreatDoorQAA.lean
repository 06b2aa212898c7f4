/- Texts joined: Shelf Base NuP NuA Reg. -/
import Derived.Shelf.Strings.Builder1
import Derived.Shelf.Strings.Builder2
import Derived.Shelf.Strings.BuilderF
import Derived.Shelf.Strings.BuilderK
import Derived.Shelf.Strings.BuilderRune
import Derived.Shelf.Utf8.AppendRune
import Derived.Shelf.Utf8.AppendRunePlain
import Derived.Shelf.Strings.Builder2Cap
import Derived.Shelf.Strconv.Itoa0
import Derived.Shelf.Strconv.Itoa1
import Derived.Shelf.LaysM
import Derived.Shelf.Strconv.Itoa2
import Derived.Shelf.Strconv.Itoa3
import Derived.Shelf.Strings.Prefix
import Derived.Shelf.Unicode.Decode
import Derived.Shelf.Bits.Mul64
import Derived.Shelf.Strings.Repeat
import Derived.Shelf.Unicode.DecodeSlow
import Derived.Shelf.Unicode.DecodeAny
import Derived.Shelf.Strings.BuilderCap
import Derived.Test.YtpifhjdbcdcelaaGreatDoorProg
import Derived.Test.YtpifhjdbcdcelaaGreatDoorRows
import Derived.WalkKit
import Derived.ProofKit
import Derived.OpenShut
import Derived.ShutString
import Derived.ChangeOld
import Derived.Below
import Derived.SliceStrings
import Derived.Deep.Grids
import Derived.BigCall
import Derived.BigQuiet
import Derived.Deep.QuietTactic
import Derived.Lib.Hide
import Derived.Lib.OthersKept
import Derived.Lib.RuneBytes
import Derived.Laws.RangeAny
import Derived.Laws.AppendOwn
import Derived.RegionTactic
import Derived.KernelRfl
import Derived.Laws.AppendOwnNone
import Derived.Deep.AppendLies
import Derived.Deep.RegionLaw
import Derived.Lib.ItoaNum
import Derived.OrdersHeld
import Derived.Deep.RegionHeld3
import Derived.Tactics
namespace Go.Proofs
open Go.Shelf
def Tryz.lays170_ren : Go.Shelf.Ren := ⟨fun | 170 => 59 | n => n, fun | 70 => 84 | 3 => 3 | 0 => 0 | 72 => 87 | 37 => 85 | 5 => 5 | n => n, fun | n => n⟩
theorem Tryz.lays170 : Go.Proofs.Lays.n170 Tryz.prog Tryz.lays170_ren := {
  mixed := by kernel_rfl
  f170 := Tryz.func59.trans (congrArg some (by kernel_rfl))
  t0 := Tryz.underlying0
  a0 := Tryz.isAgg0
  z0 := Tryz.sizeOf0
  v0 := Tryz.zeroValue0
  t3 := Tryz.underlying3
  a3 := Tryz.isAgg3
  z3 := Tryz.sizeOf3
  v3 := Tryz.zeroValue3
  t37 := Tryz.underlying85
  a37 := Tryz.isAgg85
  z37 := Tryz.sizeOf85
  v37 := Tryz.zeroValue85
  t70 := Tryz.underlying84
  a70 := Tryz.isAgg84
  z70 := Tryz.sizeOf84
  v70 := Tryz.zeroValue84
  t72 := Tryz.underlying87
  a72 := Tryz.isAgg87
  z72 := Tryz.sizeOf87
  v72 := Tryz.zeroValue87 }
def Tryz.lays167_ren : Go.Shelf.Ren := ⟨fun | 167 => 60 | 240 => 82 | 276 => 93 | n => n, fun | 70 => 84 | 5 => 5 | 75 => 90 | 0 => 0 | 72 => 87 | 37 => 85 | 4 => 4 | 164 => 136 | 80 => 56 | 9 => 9 | 20 => 20 | n => n, fun | n => n⟩
theorem Tryz.lays167 : Go.Proofs.Lays.n167 Tryz.prog Tryz.lays167_ren := {
  mixed := by kernel_rfl
  f167 := Tryz.func60.trans (congrArg some (by kernel_rfl))
  f240 := Tryz.func82.trans (congrArg some (by kernel_rfl))
  f276 := Tryz.func93.trans (congrArg some (by kernel_rfl))
  t0 := Tryz.underlying0
  a0 := Tryz.isAgg0
  z0 := Tryz.sizeOf0
  v0 := Tryz.zeroValue0
  t4 := Tryz.underlying4
  a4 := Tryz.isAgg4
  z4 := Tryz.sizeOf4
  v4 := Tryz.zeroValue4
  t5 := Tryz.underlying5
  a5 := Tryz.isAgg5
  z5 := Tryz.sizeOf5
  v5 := Tryz.zeroValue5
  t9 := Tryz.underlying9
  a9 := Tryz.isAgg9
  z9 := Tryz.sizeOf9
  v9 := Tryz.zeroValue9
  t20 := Tryz.underlying20
  a20 := Tryz.isAgg20
  z20 := Tryz.sizeOf20
  v20 := Tryz.zeroValue20
  t37 := Tryz.underlying85
  a37 := Tryz.isAgg85
  z37 := Tryz.sizeOf85
  v37 := Tryz.zeroValue85
  t70 := Tryz.underlying84
  a70 := Tryz.isAgg84
  z70 := Tryz.sizeOf84
  v70 := Tryz.zeroValue84
  t72 := Tryz.underlying87
  a72 := Tryz.isAgg87
  z72 := Tryz.sizeOf87
  v72 := Tryz.zeroValue87
  t75 := Tryz.underlying90
  a75 := Tryz.isAgg90
  z75 := Tryz.sizeOf90
  v75 := Tryz.zeroValue90
  t164 := Tryz.underlying136
  a164 := Tryz.isAgg136
  z164 := Tryz.sizeOf136
  v164 := Tryz.zeroValue136 }
theorem Tryz.Builder_Extra_167 : Builder.Extra Tryz.prog Tryz.lays167_ren := {
  sizeBuilder := by kernel_rfl
  liesBuilder := by kernel_rfl
  t5 := Tryz.underlying5
  a5 := Tryz.isAgg5
  z5 := Tryz.sizeOf5
  v5 := Tryz.zeroValue5
  infoByte := by kernel_rfl
  cellsByte := by kernel_rfl
  sizeByte := by kernel_rfl
  neB5 := by decide }
def Tryz.lays166_ren : Go.Shelf.Ren := ⟨fun | 166 => 61 | 240 => 82 | 276 => 93 | n => n, fun | 70 => 84 | 9 => 9 | 3 => 3 | 75 => 90 | 0 => 0 | 72 => 87 | 37 => 85 | 4 => 4 | 164 => 136 | 80 => 56 | 5 => 5 | 20 => 20 | n => n, fun | n => n⟩
theorem Tryz.lays166 : Go.Proofs.Lays.n166 Tryz.prog Tryz.lays166_ren := {
  mixed := by kernel_rfl
  f166 := Tryz.func61.trans (congrArg some (by kernel_rfl))
  f240 := Tryz.func82.trans (congrArg some (by kernel_rfl))
  f276 := Tryz.func93.trans (congrArg some (by kernel_rfl))
  t0 := Tryz.underlying0
  a0 := Tryz.isAgg0
  z0 := Tryz.sizeOf0
  v0 := Tryz.zeroValue0
  t3 := Tryz.underlying3
  a3 := Tryz.isAgg3
  z3 := Tryz.sizeOf3
  v3 := Tryz.zeroValue3
  t4 := Tryz.underlying4
  a4 := Tryz.isAgg4
  z4 := Tryz.sizeOf4
  v4 := Tryz.zeroValue4
  t9 := Tryz.underlying9
  a9 := Tryz.isAgg9
  z9 := Tryz.sizeOf9
  v9 := Tryz.zeroValue9
  t20 := Tryz.underlying20
  a20 := Tryz.isAgg20
  z20 := Tryz.sizeOf20
  v20 := Tryz.zeroValue20
  t37 := Tryz.underlying85
  a37 := Tryz.isAgg85
  z37 := Tryz.sizeOf85
  v37 := Tryz.zeroValue85
  t70 := Tryz.underlying84
  a70 := Tryz.isAgg84
  z70 := Tryz.sizeOf84
  v70 := Tryz.zeroValue84
  t72 := Tryz.underlying87
  a72 := Tryz.isAgg87
  z72 := Tryz.sizeOf87
  v72 := Tryz.zeroValue87
  t75 := Tryz.underlying90
  a75 := Tryz.isAgg90
  z75 := Tryz.sizeOf90
  v75 := Tryz.zeroValue90
  t164 := Tryz.underlying136
  a164 := Tryz.isAgg136
  z164 := Tryz.sizeOf136
  v164 := Tryz.zeroValue136 }
theorem Tryz.Builder_Extra_166 : Builder.Extra Tryz.prog Tryz.lays166_ren := {
  sizeBuilder := by kernel_rfl
  liesBuilder := by kernel_rfl
  t5 := Tryz.underlying5
  a5 := Tryz.isAgg5
  z5 := Tryz.sizeOf5
  v5 := Tryz.zeroValue5
  infoByte := by kernel_rfl
  cellsByte := by kernel_rfl
  sizeByte := by kernel_rfl
  neB5 := by decide }
def Tryz.lays169_ren : Go.Shelf.Ren := ⟨fun | 169 => 62 | n => n, fun | 70 => 84 | 9 => 9 | 0 => 0 | 72 => 87 | 37 => 85 | 127 => 126 | 3 => 3 | 5 => 5 | n => n, fun | n => n⟩
theorem Tryz.lays169 : Go.Proofs.Lays.n169 Tryz.prog Tryz.lays169_ren := {
  mixed := by kernel_rfl
  f169 := Tryz.func62.trans (congrArg some (by kernel_rfl))
  t0 := Tryz.underlying0
  a0 := Tryz.isAgg0
  z0 := Tryz.sizeOf0
  v0 := Tryz.zeroValue0
  t3 := Tryz.underlying3
  a3 := Tryz.isAgg3
  z3 := Tryz.sizeOf3
  v3 := Tryz.zeroValue3
  t9 := Tryz.underlying9
  a9 := Tryz.isAgg9
  z9 := Tryz.sizeOf9
  v9 := Tryz.zeroValue9
  t37 := Tryz.underlying85
  a37 := Tryz.isAgg85
  z37 := Tryz.sizeOf85
  v37 := Tryz.zeroValue85
  t70 := Tryz.underlying84
  a70 := Tryz.isAgg84
  z70 := Tryz.sizeOf84
  v70 := Tryz.zeroValue84
  t72 := Tryz.underlying87
  a72 := Tryz.isAgg87
  z72 := Tryz.sizeOf87
  v72 := Tryz.zeroValue87
  t127 := Tryz.underlying126
  a127 := Tryz.isAgg126
  z127 := Tryz.sizeOf126
  v127 := Tryz.zeroValue126 }
theorem Tryz.Builder_Extra_169 : Builder.Extra Tryz.prog Tryz.lays169_ren := {
  sizeBuilder := by kernel_rfl
  liesBuilder := by kernel_rfl
  t5 := Tryz.underlying5
  a5 := Tryz.isAgg5
  z5 := Tryz.sizeOf5
  v5 := Tryz.zeroValue5
  infoByte := by kernel_rfl
  cellsByte := by kernel_rfl
  sizeByte := by kernel_rfl
  neB5 := by decide }
open Go.RowKit in
theorem Tryz.Builder_Len_f (B b : Nat) (bs : List Value) (w : World) (h : Lib.IsBuilderF 87 5 B b bs w) :
    Calls Tryz.prog 59 #[.pointer (some ⟨b, 0, none⟩)] w fun e w' => e = .returned (.int .i64 bs.length) ∧ w' = w := Any.Builder_Len_f Tryz.lays170 B b bs w h
open Go.RowKit in
theorem Tryz.Builder_WriteByte_k (B b : Nat) (bs : List Value) (c : Int) (w : World) (h : Lib.IsBuilderF 87 5 B b bs w) (hlen : bs.length + 1 ≤ 140737488355328) (hBw : B ≤ w.heap.size) :
    Calls Tryz.prog 60 #[.pointer (some ⟨b, 0, none⟩), .int .u8 c] w fun e w' => e = .returned .nilIface ∧ (Lib.BuilderAtF 87 5 B b (.pointer (some ⟨b, 0, none⟩)) (bs ++ [.int .u8 c]) w' ∧ Below B w w' ∧ Lib.OthersKept 5 (some b) w w') := Any.Builder_WriteByte_k Tryz.lays167 Tryz.Builder_Extra_167 B b bs c w h hlen hBw
open Go.RowKit in
theorem Tryz.Builder_WriteString_k (B b : Nat) (bs : List Value) (s : ByteArray) (w : World) (h : Lib.IsBuilderF 87 5 B b bs w) (hlen : bs.length + s.size ≤ 140737488355328) (hBw : B ≤ w.heap.size) :
    Calls Tryz.prog 61 #[.pointer (some ⟨b, 0, none⟩), .string s] w fun e w' => e = .returned (.tuple #[.int .i64 s.size, .nilIface]) ∧ (Lib.BuilderAtF 87 5 B b (.pointer (some ⟨b, 0, none⟩)) (bs ++ Lib.strCells s) w' ∧ Below B w w' ∧ Lib.OthersKept 5 (some b) w w') := Any.Builder_WriteString_k Tryz.lays166 Tryz.Builder_Extra_166 B b bs s w h hlen hBw
open Go.RowKit in
theorem Tryz.Builder_String_any_k (B b : Nat) (l : List UInt8) (w : World) (h : Lib.IsBuilderF 87 5 B b (Lib.byteCells l) w) (hBw : B ≤ w.heap.size) :
    Calls Tryz.prog 62 #[.pointer (some ⟨b, 0, none⟩)] w fun e w' => e = .returned (.string ⟨l.toArray⟩) ∧ (Lib.IsBuilderF 87 5 B b (Lib.byteCells l) w' ∧ Below B w w' ∧ Lib.OthersKept 5 (some b) w w') := Any.Builder_String_any_k Tryz.lays169 Tryz.Builder_Extra_169 B b l w h hBw
def Tryz.lays168_ren : Go.Shelf.Ren := ⟨fun | 168 => 96 | 240 => 82 | 242 => 106 | 276 => 93 | 278 => 110 | n => n, fun | 70 => 84 | 21 => 21 | 3 => 3 | 75 => 90 | 0 => 0 | 72 => 87 | 37 => 85 | 4 => 4 | 164 => 136 | 51 => 143 | 5 => 5 | 46 => 132 | 80 => 56 | 9 => 9 | 20 => 20 | n => n, fun | n => n⟩
theorem Tryz.lays168 : Go.Proofs.Lays.n168 Tryz.prog Tryz.lays168_ren := {
  mixed := by kernel_rfl
  f168 := Tryz.func96.trans (congrArg some (by kernel_rfl))
  f240 := Tryz.func82.trans (congrArg some (by kernel_rfl))
  f242 := Tryz.func106.trans (congrArg some (by kernel_rfl))
  f276 := Tryz.func93.trans (congrArg some (by kernel_rfl))
  f278 := Tryz.func110.trans (congrArg some (by kernel_rfl))
  t0 := Tryz.underlying0
  a0 := Tryz.isAgg0
  z0 := Tryz.sizeOf0
  v0 := Tryz.zeroValue0
  t3 := Tryz.underlying3
  a3 := Tryz.isAgg3
  z3 := Tryz.sizeOf3
  v3 := Tryz.zeroValue3
  t4 := Tryz.underlying4
  a4 := Tryz.isAgg4
  z4 := Tryz.sizeOf4
  v4 := Tryz.zeroValue4
  t5 := Tryz.underlying5
  a5 := Tryz.isAgg5
  z5 := Tryz.sizeOf5
  v5 := Tryz.zeroValue5
  t9 := Tryz.underlying9
  a9 := Tryz.isAgg9
  z9 := Tryz.sizeOf9
  v9 := Tryz.zeroValue9
  t20 := Tryz.underlying20
  a20 := Tryz.isAgg20
  z20 := Tryz.sizeOf20
  v20 := Tryz.zeroValue20
  t21 := Tryz.underlying21
  a21 := Tryz.isAgg21
  z21 := Tryz.sizeOf21
  v21 := Tryz.zeroValue21
  t37 := Tryz.underlying85
  a37 := Tryz.isAgg85
  z37 := Tryz.sizeOf85
  v37 := Tryz.zeroValue85
  t46 := Tryz.underlying132
  a46 := Tryz.isAgg132
  z46 := Tryz.sizeOf132
  v46 := Tryz.zeroValue132
  t51 := Tryz.underlying143
  a51 := Tryz.isAgg143
  z51 := Tryz.sizeOf143
  v51 := Tryz.zeroValue143
  t70 := Tryz.underlying84
  a70 := Tryz.isAgg84
  z70 := Tryz.sizeOf84
  v70 := Tryz.zeroValue84
  t72 := Tryz.underlying87
  a72 := Tryz.isAgg87
  z72 := Tryz.sizeOf87
  v72 := Tryz.zeroValue87
  t75 := Tryz.underlying90
  a75 := Tryz.isAgg90
  z75 := Tryz.sizeOf90
  v75 := Tryz.zeroValue90
  t164 := Tryz.underlying136
  a164 := Tryz.isAgg136
  z164 := Tryz.sizeOf136
  v164 := Tryz.zeroValue136 }
theorem Tryz.Builder_Extra_168 : Builder.Extra Tryz.prog Tryz.lays168_ren := {
  sizeBuilder := by kernel_rfl
  liesBuilder := by kernel_rfl
  t5 := Tryz.underlying5
  a5 := Tryz.isAgg5
  z5 := Tryz.sizeOf5
  v5 := Tryz.zeroValue5
  infoByte := by kernel_rfl
  cellsByte := by kernel_rfl
  sizeByte := by kernel_rfl
  neB5 := by decide }
open Go.RowKit in
theorem Tryz.Builder_WriteRune_k (B b : Nat) (bs : List Value) (r : Int) (hr0 : -2147483648 ≤ r) (hr1 : r ≤ 2147483647) (w : World) (h : Lib.IsBuilderF 87 5 B b bs w) (hlen : bs.length + 4 ≤ 140737488355328) (hBw : B ≤ w.heap.size) :
    Calls Tryz.prog 96 #[.pointer (some ⟨b, 0, none⟩), .int .i32 r] w fun e w' => e = .returned (.tuple #[.int .i64 (Lib.runeCells r).length, .nilIface]) ∧ (Lib.BuilderAtF 87 5 B b (.pointer (some ⟨b, 0, none⟩)) (bs ++ Lib.runeCells r) w' ∧ Below B w w' ∧ Lib.OthersKept 5 (some b) w w') := Any.Builder_WriteRune_k Tryz.lays168 Tryz.Builder_Extra_168 B b bs r hr0 hr1 w h hlen hBw
def Tryz.lays171_ren : Go.Shelf.Ren := ⟨fun | 171 => 86 | 243 => 98 | 246 => 107 | 283 => 111 | 284 => 112 | 285 => 113 | 286 => 114 | 129 => 116 | 317 => 115 | 318 => 117 | 319 => 118 | 320 => 119 | 337 => 120 | 338 => 121 | n => n, fun | 3 => 3 | 9 => 9 | 2 => 2 | 4 => 4 | 171 => 153 | 0 => 0 | 53 => 146 | 37 => 85 | 5 => 5 | 173 => 156 | 212 => 164 | 51 => 143 | 20 => 20 | 213 => 165 | 46 => 132 | 232 => 169 | 233 => 170 | n => n, fun | 17 => 3 | 18 => 4 | 19 => 5 | n => n⟩
theorem Tryz.lays171 : Go.Proofs.Lays.n171 Tryz.prog Tryz.lays171_ren := {
  mixed := by kernel_rfl
  f129 := Tryz.func116.trans (congrArg some (by kernel_rfl))
  f171 := Tryz.func86.trans (congrArg some (by kernel_rfl))
  f243 := Tryz.func98.trans (congrArg some (by kernel_rfl))
  f246 := Tryz.func107.trans (congrArg some (by kernel_rfl))
  f283 := Tryz.func111.trans (congrArg some (by kernel_rfl))
  f284 := Tryz.func112.trans (congrArg some (by kernel_rfl))
  f285 := Tryz.func113.trans (congrArg some (by kernel_rfl))
  f286 := Tryz.func114.trans (congrArg some (by kernel_rfl))
  f317 := Tryz.func115.trans (congrArg some (by kernel_rfl))
  f318 := Tryz.func117.trans (congrArg some (by kernel_rfl))
  f319 := Tryz.func118.trans (congrArg some (by kernel_rfl))
  f320 := Tryz.func119.trans (congrArg some (by kernel_rfl))
  f337 := Tryz.func120.trans (congrArg some (by kernel_rfl))
  f338 := Tryz.func121.trans (congrArg some (by kernel_rfl))
  t0 := Tryz.underlying0
  a0 := Tryz.isAgg0
  z0 := Tryz.sizeOf0
  v0 := Tryz.zeroValue0
  t2 := Tryz.underlying2
  a2 := Tryz.isAgg2
  z2 := Tryz.sizeOf2
  v2 := Tryz.zeroValue2
  t3 := Tryz.underlying3
  a3 := Tryz.isAgg3
  z3 := Tryz.sizeOf3
  v3 := Tryz.zeroValue3
  t4 := Tryz.underlying4
  a4 := Tryz.isAgg4
  z4 := Tryz.sizeOf4
  v4 := Tryz.zeroValue4
  t5 := Tryz.underlying5
  a5 := Tryz.isAgg5
  z5 := Tryz.sizeOf5
  v5 := Tryz.zeroValue5
  t9 := Tryz.underlying9
  a9 := Tryz.isAgg9
  z9 := Tryz.sizeOf9
  v9 := Tryz.zeroValue9
  t20 := Tryz.underlying20
  a20 := Tryz.isAgg20
  z20 := Tryz.sizeOf20
  v20 := Tryz.zeroValue20
  t37 := Tryz.underlying85
  a37 := Tryz.isAgg85
  z37 := Tryz.sizeOf85
  v37 := Tryz.zeroValue85
  t46 := Tryz.underlying132
  a46 := Tryz.isAgg132
  z46 := Tryz.sizeOf132
  v46 := Tryz.zeroValue132
  t51 := Tryz.underlying143
  a51 := Tryz.isAgg143
  z51 := Tryz.sizeOf143
  v51 := Tryz.zeroValue143
  t53 := Tryz.underlying146
  a53 := Tryz.isAgg146
  z53 := Tryz.sizeOf146
  v53 := Tryz.zeroValue146
  t171 := Tryz.underlying153
  a171 := Tryz.isAgg153
  z171 := Tryz.sizeOf153
  v171 := Tryz.zeroValue153
  t173 := Tryz.underlying156
  a173 := Tryz.isAgg156
  z173 := Tryz.sizeOf156
  v173 := Tryz.zeroValue156
  t212 := Tryz.underlying164
  a212 := Tryz.isAgg164
  z212 := Tryz.sizeOf164
  v212 := Tryz.zeroValue164
  t213 := Tryz.underlying165
  a213 := Tryz.isAgg165
  z213 := Tryz.sizeOf165
  t232 := Tryz.underlying169
  a232 := Tryz.isAgg169
  z232 := Tryz.sizeOf169
  v232 := Tryz.zeroValue169
  t233 := Tryz.underlying170
  a233 := Tryz.isAgg170
  z233 := Tryz.sizeOf170
  v233 := Tryz.zeroValue170
  g17 := by kernel_rfl
  g18 := by kernel_rfl
  g19 := by kernel_rfl }
open Go.RowKit Go.Sort Go.Lib in
theorem Tryz.strconv_Itoa_small (i : Nat) (hi : i < 100) (w : World) :
    Calls Tryz.prog 86 #[.int .i64 i] w fun e w' => e = .returned (.string ⟨(Lib.decDigits i).toArray⟩) ∧ w' = w := Any.strconv_Itoa_small Tryz.lays171 i hi w
def Tryz.lays99_ren : Go.Shelf.Ren := ⟨fun | 99 => 91 | 206 => 103 | n => n, fun | 9 => 9 | 4 => 4 | 3 => 3 | n => n, fun | n => n⟩
theorem Tryz.lays99 : Go.Proofs.Lays.n99 Tryz.prog Tryz.lays99_ren := {
  mixed := by kernel_rfl
  f99 := Tryz.func91.trans (congrArg some (by kernel_rfl))
  f206 := Tryz.func103.trans (congrArg some (by kernel_rfl))
  t3 := Tryz.underlying3
  a3 := Tryz.isAgg3
  z3 := Tryz.sizeOf3
  v3 := Tryz.zeroValue3
  t4 := Tryz.underlying4
  a4 := Tryz.isAgg4
  z4 := Tryz.sizeOf4
  v4 := Tryz.zeroValue4
  t9 := Tryz.underlying9
  a9 := Tryz.isAgg9
  z9 := Tryz.sizeOf9
  v9 := Tryz.zeroValue9 }
open Go.RowKit Go.Lib in
theorem Tryz.strings_HasPrefix (s p : ByteArray) (w : World) :
    Calls Tryz.prog 91 #[.string s, .string p] w fun e w' => e = .returned (.bool (Lib.hasPrefix s.data.toList p.data.toList)) ∧ w' = w := Any.strings_HasPrefix Tryz.lays99 s p w
def Tryz.lays197_ren : Go.Shelf.Ren := ⟨fun | 197 => 99 | 260 => 108 | n => n, fun | 9 => 9 | 21 => 21 | 3 => 3 | 4 => 4 | 5 => 5 | 105 => 141 | 119 => 158 | 0 => 0 | 46 => 132 | 139 => 161 | 138 => 160 | n => n, fun | 3 => 0 | 4 => 1 | n => n⟩
theorem Tryz.lays197 : Go.Proofs.Lays.n197 Tryz.prog Tryz.lays197_ren := {
  mixed := by kernel_rfl
  f197 := Tryz.func99.trans (congrArg some (by kernel_rfl))
  f260 := Tryz.func108.trans (congrArg some (by kernel_rfl))
  t0 := Tryz.underlying0
  a0 := Tryz.isAgg0
  z0 := Tryz.sizeOf0
  v0 := Tryz.zeroValue0
  t3 := Tryz.underlying3
  a3 := Tryz.isAgg3
  z3 := Tryz.sizeOf3
  v3 := Tryz.zeroValue3
  t4 := Tryz.underlying4
  a4 := Tryz.isAgg4
  z4 := Tryz.sizeOf4
  v4 := Tryz.zeroValue4
  t5 := Tryz.underlying5
  a5 := Tryz.isAgg5
  z5 := Tryz.sizeOf5
  v5 := Tryz.zeroValue5
  t9 := Tryz.underlying9
  a9 := Tryz.isAgg9
  z9 := Tryz.sizeOf9
  v9 := Tryz.zeroValue9
  t21 := Tryz.underlying21
  a21 := Tryz.isAgg21
  z21 := Tryz.sizeOf21
  v21 := Tryz.zeroValue21
  t46 := Tryz.underlying132
  a46 := Tryz.isAgg132
  z46 := Tryz.sizeOf132
  v46 := Tryz.zeroValue132
  t105 := Tryz.underlying141
  a105 := Tryz.isAgg141
  z105 := Tryz.sizeOf141
  v105 := Tryz.zeroValue141
  t119 := Tryz.underlying158
  a119 := Tryz.isAgg158
  z119 := Tryz.sizeOf158
  t138 := Tryz.underlying160
  a138 := Tryz.isAgg160
  z138 := Tryz.sizeOf160
  v138 := Tryz.zeroValue160
  t139 := Tryz.underlying161
  a139 := Tryz.isAgg161
  z139 := Tryz.sizeOf161
  v139 := Tryz.zeroValue161
  g3 := by kernel_rfl
  g4 := by kernel_rfl }
def Tryz.lays105_ren : Go.Shelf.Ren := ⟨fun | 105 => 81 | 212 => 90 | 99 => 91 | 165 => 92 | 166 => 61 | 170 => 59 | 169 => 62 | 263 => 101 | 264 => 102 | 206 => 103 | 240 => 82 | 241 => 104 | 276 => 93 | 277 => 109 | n => n, fun | 9 => 9 | 3 => 3 | 4 => 4 | 20 => 20 | 0 => 0 | 46 => 132 | 109 => 133 | 5 => 5 | 72 => 87 | 76 => 92 | 51 => 143 | 146 => 144 | 53 => 146 | 148 => 147 | 70 => 84 | 37 => 85 | 75 => 90 | 127 => 126 | 164 => 136 | 80 => 56 | n => n, fun | n => n⟩
theorem Tryz.lays105 : Go.Proofs.Lays.n105 Tryz.prog Tryz.lays105_ren := {
  mixed := by kernel_rfl
  f99 := Tryz.func91.trans (congrArg some (by kernel_rfl))
  f105 := Tryz.func81.trans (congrArg some (by kernel_rfl))
  f165 := Tryz.func92.trans (congrArg some (by kernel_rfl))
  f166 := Tryz.func61.trans (congrArg some (by kernel_rfl))
  f169 := Tryz.func62.trans (congrArg some (by kernel_rfl))
  f170 := Tryz.func59.trans (congrArg some (by kernel_rfl))
  f206 := Tryz.func103.trans (congrArg some (by kernel_rfl))
  f212 := Tryz.func90.trans (congrArg some (by kernel_rfl))
  f240 := Tryz.func82.trans (congrArg some (by kernel_rfl))
  f241 := Tryz.func104.trans (congrArg some (by kernel_rfl))
  f263 := Tryz.func101.trans (congrArg some (by kernel_rfl))
  f264 := Tryz.func102.trans (congrArg some (by kernel_rfl))
  f276 := Tryz.func93.trans (congrArg some (by kernel_rfl))
  f277 := Tryz.func109.trans (congrArg some (by kernel_rfl))
  t0 := Tryz.underlying0
  a0 := Tryz.isAgg0
  z0 := Tryz.sizeOf0
  v0 := Tryz.zeroValue0
  t3 := Tryz.underlying3
  a3 := Tryz.isAgg3
  z3 := Tryz.sizeOf3
  v3 := Tryz.zeroValue3
  t4 := Tryz.underlying4
  a4 := Tryz.isAgg4
  z4 := Tryz.sizeOf4
  v4 := Tryz.zeroValue4
  t5 := Tryz.underlying5
  a5 := Tryz.isAgg5
  z5 := Tryz.sizeOf5
  v5 := Tryz.zeroValue5
  t9 := Tryz.underlying9
  a9 := Tryz.isAgg9
  z9 := Tryz.sizeOf9
  v9 := Tryz.zeroValue9
  t20 := Tryz.underlying20
  a20 := Tryz.isAgg20
  z20 := Tryz.sizeOf20
  v20 := Tryz.zeroValue20
  t37 := Tryz.underlying85
  a37 := Tryz.isAgg85
  z37 := Tryz.sizeOf85
  v37 := Tryz.zeroValue85
  t46 := Tryz.underlying132
  a46 := Tryz.isAgg132
  z46 := Tryz.sizeOf132
  v46 := Tryz.zeroValue132
  t51 := Tryz.underlying143
  a51 := Tryz.isAgg143
  z51 := Tryz.sizeOf143
  v51 := Tryz.zeroValue143
  t53 := Tryz.underlying146
  a53 := Tryz.isAgg146
  z53 := Tryz.sizeOf146
  v53 := Tryz.zeroValue146
  t70 := Tryz.underlying84
  a70 := Tryz.isAgg84
  z70 := Tryz.sizeOf84
  v70 := Tryz.zeroValue84
  t72 := Tryz.underlying87
  a72 := Tryz.isAgg87
  z72 := Tryz.sizeOf87
  v72 := Tryz.zeroValue87
  t75 := Tryz.underlying90
  a75 := Tryz.isAgg90
  z75 := Tryz.sizeOf90
  v75 := Tryz.zeroValue90
  t76 := Tryz.underlying92
  a76 := Tryz.isAgg92
  z76 := Tryz.sizeOf92
  v76 := Tryz.zeroValue92
  t109 := Tryz.underlying133
  a109 := Tryz.isAgg133
  z109 := Tryz.sizeOf133
  v109 := Tryz.zeroValue133
  t127 := Tryz.underlying126
  a127 := Tryz.isAgg126
  z127 := Tryz.sizeOf126
  v127 := Tryz.zeroValue126
  t146 := Tryz.underlying144
  a146 := Tryz.isAgg144
  z146 := Tryz.sizeOf144
  v146 := Tryz.zeroValue144
  t148 := Tryz.underlying147
  a148 := Tryz.isAgg147
  z148 := Tryz.sizeOf147
  v148 := Tryz.zeroValue147
  t164 := Tryz.underlying136
  a164 := Tryz.isAgg136
  z164 := Tryz.sizeOf136
  v164 := Tryz.zeroValue136 }
theorem Tryz.Builder_Extra_105 : Builder.Extra Tryz.prog Tryz.lays105_ren := {
  sizeBuilder := by kernel_rfl
  liesBuilder := by kernel_rfl
  t5 := Tryz.underlying5
  a5 := Tryz.isAgg5
  z5 := Tryz.sizeOf5
  v5 := Tryz.zeroValue5
  infoByte := by kernel_rfl
  cellsByte := by kernel_rfl
  sizeByte := by kernel_rfl
  neB5 := by decide }
open Go.RowKit Go.Lib in
theorem Tryz.strings_Repeat (s : ByteArray) (c : Nat) (w : World) (hc : c ≤ 9223372036854775807) (hlen : s.size * c ≤ 140737488355328) :
    Calls Tryz.prog 81 #[.string s, .int .i64 c] w fun e w' => e = .returned (.string ⟨(Lib.repeatL s.data.toList c).toArray⟩) ∧ Below w.heap.size w w' := Any.strings_Repeat Tryz.lays105 Tryz.Builder_Extra_105 s c w hc hlen
def Tryz.lays260_ren : Go.Shelf.Ren := ⟨fun | 260 => 108 | n => n, fun | 9 => 9 | 21 => 21 | 3 => 3 | 4 => 4 | 5 => 5 | 119 => 158 | 0 => 0 | 46 => 132 | 139 => 161 | 138 => 160 | n => n, fun | 3 => 0 | 4 => 1 | n => n⟩
theorem Tryz.lays260 : Go.Proofs.Lays.n260 Tryz.prog Tryz.lays260_ren := {
  mixed := by kernel_rfl
  f260 := Tryz.func108.trans (congrArg some (by kernel_rfl))
  t0 := Tryz.underlying0
  a0 := Tryz.isAgg0
  z0 := Tryz.sizeOf0
  v0 := Tryz.zeroValue0
  t3 := Tryz.underlying3
  a3 := Tryz.isAgg3
  z3 := Tryz.sizeOf3
  v3 := Tryz.zeroValue3
  t4 := Tryz.underlying4
  a4 := Tryz.isAgg4
  z4 := Tryz.sizeOf4
  v4 := Tryz.zeroValue4
  t5 := Tryz.underlying5
  a5 := Tryz.isAgg5
  z5 := Tryz.sizeOf5
  v5 := Tryz.zeroValue5
  t9 := Tryz.underlying9
  a9 := Tryz.isAgg9
  z9 := Tryz.sizeOf9
  v9 := Tryz.zeroValue9
  t21 := Tryz.underlying21
  a21 := Tryz.isAgg21
  z21 := Tryz.sizeOf21
  v21 := Tryz.zeroValue21
  t46 := Tryz.underlying132
  a46 := Tryz.isAgg132
  z46 := Tryz.sizeOf132
  v46 := Tryz.zeroValue132
  t119 := Tryz.underlying158
  a119 := Tryz.isAgg158
  z119 := Tryz.sizeOf158
  t138 := Tryz.underlying160
  a138 := Tryz.isAgg160
  z138 := Tryz.sizeOf160
  v138 := Tryz.zeroValue160
  t139 := Tryz.underlying161
  a139 := Tryz.isAgg161
  z139 := Tryz.sizeOf161
  v139 := Tryz.zeroValue161
  g3 := by kernel_rfl
  g4 := by kernel_rfl }
open Go.RowKit Go.Lib in
theorem Tryz.utf8_DecodeRuneInString (s : ByteArray) (w : World) (hT : Lib.Utf8Tabs 0 1 w) :
    Calls Tryz.prog 99 #[.string s] w fun e w' => e = .returned (.tuple #[.int .i32 (Lib.decodeGo s).1, .int .i64 (Lib.decodeGo s).2]) ∧ Below w.heap.size w w' := Any.utf8_DecodeRuneInString Tryz.lays197 s w hT
end Go.Proofs

namespace Go.Proofs.YtpifhjdbcdcelaaGreatDoor
open Go.ChangeShapes Go.WideShapes Go.ChangeAt Go.RowKit
theorem own : ownKnob Tryz.prog.godebug = none := by kernel_rfl
/-- The slice value at A (capacity 'cap') holds just the values xs, one cell each. -/
def RowOf (w : World) (A : Option Addr) (cap : Nat) (xs : List Value) : Prop :=
  xs.length ≤ cap ∧ cap ≤ maxLen ∧ (xs = [] ∨ ∃ b off, A = some ⟨b, off, none⟩ ∧ b < w.heap.size ∧ ∀ i (h : i < xs.length), w.cell? ⟨b, off + i, none⟩ = some xs[i])
theorem RowOf.below {w w' : World} {A : Option Addr} {cap : Nat} {xs : List Value} (h : RowOf w A cap xs) (hb : Below w.heap.size w w') : RowOf w' A cap xs := by
  obtain ⟨h1, h2, h3⟩ := h
  refine ⟨h1, h2, ?_⟩
  rcases h3 with h3 | ⟨b, off, e, hlt, hc⟩
  · exact Or.inl h3
  · refine Or.inr ⟨b, off, e, Nat.lt_of_lt_of_le hlt hb.size, fun i hi => ?_⟩
    rw [hb.cell (p := ⟨b, off + i, none⟩) hlt]
    exact hc i hi
theorem rowOf_mk {w : World} {a : Addr} {len cap n : Nat} {f : Nat → Value} (hl : len ≤ n) (hlc : len ≤ cap) (hc : cap ≤ maxLen) (h : ∀ i, i < n → w.cell? (a.add i) = some (f i)) :
    RowOf w (some a) cap ((List.range len).map f) := by
  refine ⟨by simpa using hlc, hc, ?_⟩
  by_cases h0 : len = 0
  · exact Or.inl (by simp [h0])
  · have hcell0 := h 0 (by omega)
    have hsp : a.spot = none := by
      have := World.cell?_spot hcell0
      simpa [Addr.add] using this
    obtain ⟨b, off, sp⟩ := a
    simp only at hsp
    subst hsp
    refine Or.inr ⟨b, off, rfl, ?_, fun i hi => ?_⟩
    · have := World.block_lt_of_cell? _ _ hcell0
      simpa [Addr.add] using this
    · simp only [List.length_map, List.length_range] at hi
      have hci := h i (by omega)
      simp only [List.getElem_map, List.getElem_range]
      rw [← hci]
      by_cases hi0 : i = 0
      · subst hi0; simp [Addr.add]
      · simp [Addr.add, hi0]
section
variable {H : Type} {enc : TypeId × Value → H} {P : Program} {w : World} {held : Bool} {A : Option Addr} {len cap : Nat} {d : DataW H} {ps : List MemPlace}
theorem rowOf_nil (A : Option Addr) : RowOf w A 0 [] := ⟨Nat.le_refl _, Nat.zero_le _, Or.inl rfl⟩
theorem map_range_getD {α : Type} (zs : List α) (z0 : α) (len : Nat) (h : len ≤ zs.length) (g : α → Value) : (List.range len).map (fun i => g (zs.getD i z0)) = (zs.take len).map g := by
  apply List.ext_getElem
  · simp; omega
  · intro i h1 h2
    simp only [List.length_map, List.length_range] at h1
    simp only [List.getElem_map, List.getElem_range, List.getElem_take]
    rw [List.getD_eq_getElem?_getD, List.getElem?_eq_getElem (by omega)]
    rfl
theorem opened_ints {t e : TypeId} {k : IntKind} {fuel : Nat} {x : DataW H × List MemPlace} (ht : P.underlying t = some (.slice e)) (he : P.underlying e = some (.int k)) (hc : P.cellsOf e = 1)
    (h : DataW.trod enc P w 0 (fun _ => true) held fuel t (Value.slice A len cap).cells.toList = some x) :
    ∃ zs : List Int, zs.length = len ∧ RowOf w A cap (zs.map (Value.int k)) ∧ ∀ n ∈ zs, (Lit.int k n).wf = true := by
  rcases open_ints ht he hc h with ⟨hcs, _⟩ | ⟨a, l, c, zs, hcs, _, hl, hm, hz, _, hcell, hwz⟩
  · simp [Value.cells] at hcs
    obtain ⟨rfl, rfl, rfl⟩ := hcs
    exact ⟨[], rfl, rowOf_nil _, by simp⟩
  · simp [Value.cells] at hcs
    obtain ⟨rfl, rfl, rfl⟩ := hcs
    simp only [if_true] at hz
    refine ⟨zs.take len, by simp; omega, ?_, fun n hn => hwz n (List.mem_of_mem_take hn)⟩
    rw [← map_range_getD zs 0 len (by omega) (Value.int k)]
    exact rowOf_mk (n := zs.length) (by omega) hl hm hcell
theorem opened_strings {t e : TypeId} {fuel : Nat} {x : DataW H × List MemPlace} (ht : P.underlying t = some (.slice e)) (he : P.underlying e = some .string) (hc : P.cellsOf e = 1)
    (h : DataW.trod enc P w 0 (fun _ => true) held fuel t (Value.slice A len cap).cells.toList = some x) :
    ∃ ss : List ByteArray, ss.length = len ∧ RowOf w A cap (ss.map Value.string) ∧ ∀ s ∈ ss, s.size ≤ maxLen := by
  rcases open_strings ht he hc h with ⟨hcs, _⟩ | ⟨a, l, c, zs, hcs, _, hl, hm, hz, _, hcell, hwz⟩
  · simp [Value.cells] at hcs
    obtain ⟨rfl, rfl, rfl⟩ := hcs
    exact ⟨[], rfl, rowOf_nil _, by simp⟩
  · simp [Value.cells] at hcs
    obtain ⟨rfl, rfl, rfl⟩ := hcs
    simp only [if_true] at hz
    refine ⟨zs.take len, by simp; omega, ?_, fun n hn => hwz n (List.mem_of_mem_take hn)⟩
    rw [← map_range_getD zs ByteArray.empty len (by omega) Value.string]
    exact rowOf_mk (n := zs.length) (by omega) hl hm hcell
end
end Go.Proofs.YtpifhjdbcdcelaaGreatDoor
namespace Go.Proofs.YtpifhjdbcdcelaaGreatDoor
open Go.RowKit
set_option linter.unusedSimpArgs false
set_option linter.unusedVariables false
theorem ret_i32 {a b : Int} (h : a = b) : Ending.returned (.int .i32 a) = .returned (.int .i32 b) := by rw [h]
theorem ret_int {a b : Int} (h : a = b) : Ending.returned (.int .i64 a) = .returned (.int .i64 b) := by rw [h]
theorem alloc_size (w : World) (o : Obj) : (w.alloc o).heap.size = w.heap.size + 1 := by show (w.heap.push o).size = _; simp
theorem ret_bool {a b : Bool} (h : a = b) : Ending.returned (.bool a) = .returned (.bool b) := by rw [h]
/-- One call behind another one. -/
theorem _root_.Go.RowKit.Below.then {w w1 w2 : World} (h : Below w.heap.size w w1) (k : Below w1.heap.size w1 w2) : Below w.heap.size w w2 := h.trans (k.mono h.size)
theorem str_append (l : List UInt8) (s : ByteArray) : (⟨l.toArray⟩ : ByteArray) ++ s = ⟨(l ++ s.data.toList).toArray⟩ := by
  apply ByteArray.ext
  apply Array.ext'
  simp
theorem str_size (l : List UInt8) : (⟨l.toArray⟩ : ByteArray).size = l.length := by show l.toArray.size = _; simp
theorem ownsRow_iterAt {w : World} {B : Nat} {e : TypeId} {size : Nat} {v : Value} {n : Nat} {xs : List Value} (h : w.ownsRow B e size v n xs) {k : Nat} {s : ByteArray} {pos : Nat}
    (hk : w.heap[k]? = some (.stringIter s pos)) (pos' : Nat) : (w.iterAt k s pos').ownsRow B e size v n xs := by
  refine ⟨h.1, ?_⟩
  rcases h.2 with hn | ⟨g, cap, cur, rfl, hb, hg, rest⟩
  · exact .inl hn
  · refine .inr ⟨g, cap, cur, rfl, hb, ?_, rest⟩
    rw [Lib.iterAt_other w k g s pos' (by intro e1; rw [e1, hk] at hg; cases hg)]
    exact hg
theorem ownsRow_below {w w' : World} {B : Nat} {e : TypeId} {size : Nat} {v : Value} {n : Nat} {xs : List Value} (h : w.ownsRow B e size v n xs) (hb : RowKit.Below w.heap.size w w') : w'.ownsRow B e size v n xs := by
  refine ⟨h.1, ?_⟩
  rcases h.2 with hn | ⟨g, cap, cur, rfl, hB, hg, rest⟩
  · exact .inl hn
  · exact .inr ⟨g, cap, cur, rfl, hB, (hb.block g (Array.getElem?_eq_some_iff.1 hg).1).trans hg, rest⟩
theorem infoString : (Tryz.prog.info? 9).map (fun i => (i.zero, i.size, i.bytes)) = some (some (.string ByteArray.empty), 1, 16) := by kernel_rfl
def strs (ls : List (List UInt8)) : List Value := ls.map fun l => Value.string ⟨l.toArray⟩
theorem strs_length (ls : List (List UInt8)) : (strs ls).length = ls.length := by simp [strs]
theorem strs_append (a b : List (List UInt8)) : strs (a ++ b) = strs a ++ strs b := by simp [strs]
theorem strs_one (l : List UInt8) : strs [l] = [.string ⟨l.toArray⟩] := rfl
theorem strs_get (ls : List (List UInt8)) (i : Nat) (h : i < (strs ls).length) : (strs ls)[i] = .string ⟨(ls[i]'(by simpa [strs] using h)).toArray⟩ := by simp [strs]
/-- The cells of a list that may be read. -/
theorem RowOf.at {w : World} {A : Option Addr} {cap : Nat} {xs : List Value} (h : RowOf w A cap xs) (hne : xs ≠ []) :
    ∃ b off, A = some ⟨b, off, none⟩ ∧ b < w.heap.size ∧ ∀ i (h : i < xs.length), w.cell? ⟨b, off + i, none⟩ = some xs[i] := by
  rcases h.2.2 with h | h
  · exact absurd h hne
  · exact h
theorem toList_ne {s : ByteArray} (h : 0 < s.size) : ¬ s.toList = [] := by
  rw [ByteArray.toList_eq]
  intro e
  have := congrArg List.length e
  rw [List.length_nil, Array.length_toList] at this
  have h2 : s.data.size = s.size := rfl
  omega
theorem toList_empty {s : ByteArray} (h : 0 < s.size) : s.toList.isEmpty = false := by
  rw [List.isEmpty_eq_false_iff]; exact toList_ne h
theorem rowOf_lit (w : World) (t : TypeId) (xs : List Value) (hm : xs.length ≤ maxLen) : RowOf (w.alloc (.cells xs.toArray t)) (some ⟨w.heap.size, 0, none⟩) xs.length xs := by
  refine ⟨Nat.le_refl _, hm, Or.inr ⟨w.heap.size, 0, rfl, by show _ < (w.heap.push _).size; simp, fun i hi => ?_⟩⟩
  rw [Nat.zero_add, cell_of_row _ _ i xs.toArray t (0, 0) (heap_alloc_new w _)]
  simp [hi]
theorem RowOf.alloc {w : World} {A : Option Addr} {cap : Nat} {xs : List Value} (h : RowOf w A cap xs) (o : Obj) : RowOf (w.alloc o) A cap xs :=
  h.below ((Below.refl _ w).alloc (Nat.le_refl _) o)
theorem below_drewN' {B : Nat} {a w : World} (h : Below B a w) (n : Nat) : Below B a (w.drewN n) := ⟨h.os, h.tape, h.output, h.size, h.block⟩
end Go.Proofs.YtpifhjdbcdcelaaGreatDoor
namespace Go.Proofs.YtpifhjdbcdcelaaGreatDoor
open Go.RowKit
set_option linter.unusedSimpArgs false
set_option linter.unusedVariables false
theorem addr_add (b off k : Nat) : (⟨b, off, none⟩ : Addr).add k = ⟨b, off + k, none⟩ := by
  unfold Addr.add
  split
  · rename_i h; simp [h]
  · rfl
theorem RowOf.cellAt {w : World} {A : Option Addr} {cap : Nat} {ls : List (List UInt8)} (h : RowOf w A cap (strs ls)) {k : Nat} (hk : k < ls.length) :
    ∃ b off, A = some ⟨b, off, none⟩ ∧ b < w.heap.size ∧ w.cell? ⟨b, off + k, none⟩ = some (.string ⟨ls[k].toArray⟩) := by
  have hne : strs ls ≠ [] := by intro e; have := congrArg List.length e; rw [strs_length, List.length_nil] at this; omega
  obtain ⟨b, off, e, hb, hc⟩ := h.at hne
  have := hc k (by rw [strs_length]; exact hk)
  rw [strs_get] at this
  exact ⟨b, off, e, hb, this⟩
def QuietBool (w : World) (b : Bool) (e : Ending) (w' : World) : Prop := e = .returned (.bool b) ∧ ∃ n, w' = w.drewN n
theorem rowOf_heap {w w' : World} (h : w'.heap = w.heap) {A : Option Addr} {cap : Nat} {xs : List Value} (hr : RowOf w A cap xs) : RowOf w' A cap xs := by
  refine ⟨hr.1, hr.2.1, ?_⟩
  rcases hr.2.2 with h1 | ⟨b, off, e, hb, hc⟩
  · exact Or.inl h1
  · exact Or.inr ⟨b, off, e, by rw [h]; exact hb, fun i hi => by have := hc i hi; simpa [World.cell?, h] using this⟩
/-- A list of the call's own may be read. -/
theorem RowOf.own {w : World} {B : Nat} {e : TypeId} {v : Value} {n : Nat} {xs : List Value} (h : w.ownsRow B e 1 v n xs) : ∃ A cap, v = .slice A n cap ∧ RowOf w A cap xs ∧ (A = none → n = 0) ∧ ∀ a, A = some a → B ≤ a.block := by
  obtain ⟨hl, h⟩ := h
  rcases h with ⟨rfl, rfl⟩ | ⟨g, cap, cur, rfl, hb, hg, hnc, hcm, hcs, ht⟩
  · refine ⟨none, 0, rfl, ⟨by omega, Nat.zero_le _, Or.inl ?_⟩, fun _ => rfl, fun a h => by cases h⟩
    exact List.eq_nil_of_length_eq_zero (by omega)
  · refine ⟨_, cap, rfl, ⟨by omega, hcm, Or.inr ⟨g, 0, rfl, (Array.getElem?_eq_some_iff.1 hg).1, fun i hi => ?_⟩⟩, fun h => (by cases h), fun a h => by cases h; exact hb⟩
    rw [Nat.zero_add, cell_of_row w g i cur e (0, 0) hg]
    have h2 : xs[i]? = some xs[i] := List.getElem?_eq_getElem hi
    have h3 : (cur.toList.take (n * 1))[i]? = some xs[i] := by rw [ht]; exact h2
    rw [List.getElem?_take] at h3
    split at h3
    · simpa using h3
    · cases h3
theorem RowOf.take {w : World} {A : Option Addr} {cap : Nat} {xs : List Value} (h : RowOf w A cap xs) (k : Nat) : RowOf w A cap (xs.take k) := by
  refine ⟨by have := h.1; rw [List.length_take]; omega, h.2.1, ?_⟩
  rcases h.2.2 with h1 | ⟨b, off, e, hb, hc⟩
  · exact Or.inl (by rw [h1]; simp)
  · refine Or.inr ⟨b, off, e, hb, fun i hi => ?_⟩
    rw [List.length_take] at hi
    rw [List.getElem_take]
    exact hc i (by omega)
end Go.Proofs.YtpifhjdbcdcelaaGreatDoor
namespace Go.Proofs.YtpifhjdbcdcelaaGreatDoor
open Go.RowKit
set_option linter.unusedSimpArgs false
set_option linter.unusedVariables false
theorem strs_one' (ls : List (List UInt8)) : ∀ u ∈ strs ls, u.oneCell' = true := by
  intro u hu
  obtain ⟨l, _, rfl⟩ := List.mem_map.1 hu
  rfl
/-- Where the cells of a list that may be read lie. -/
theorem RowOf.cells {w : World} {ad : Addr} {cap : Nat} {xs : List Value} (h : RowOf w (some ad) cap xs) : ∀ j u, xs[j]? = some u → w.cell? (ad.add j) = some u := by
  intro j u hu
  have hj : j < xs.length := (List.getElem?_eq_some_iff.1 hu).1
  rcases h.2.2 with h | ⟨b, off, e, hb, hc⟩
  · rw [h] at hj; simp at hj
  · cases e
    rw [addr_add, hc j hj, ← hu, List.getElem?_eq_getElem hj]
/-- Two values own no block together. -/
def Apart (v u : Value) : Prop := ∀ g, v.ownBlock = some g → u.ownBlock ≠ some g
theorem Apart.symm {v u : Value} (h : Apart v u) : Apart u v := fun g hu hv => h g hv hu
theorem Apart.ne {v u : Value} (h : Apart v u) : v.ownBlock = none ∨ v.ownBlock ≠ u.ownBlock := by
  cases hv : v.ownBlock with
  | none => exact Or.inl rfl
  | some g => exact Or.inr fun e => h g hv e.symm
/-- Two rows whose elements are of different types lie apart; and a row lies apart from a block of another type. -/
theorem own_ne {w : World} {B : Nat} {e e' : TypeId} {size n : Nat} {v : Value} {xs : List Value} (h : w.ownsRow B e size v n xs) {g : Nat} {cs : Array Value} {fz : Nat × Nat} (hg : w.heap[g]? = some (.cells cs e' fz)) (hne : e ≠ e') : v.ownBlock ≠ some g := by
  rcases h.2 with ⟨rfl, _⟩ | ⟨g', cap, cur, rfl, _, hh, _⟩
  · simp [Value.ownBlock]
  · intro he
    simp [Value.ownBlock] at he
    subst he
    rw [hh] at hg
    injection hg with hg
    injection hg with _ ht
    exact hne ht
theorem own_apart {w : World} {B B' : Nat} {e e' : TypeId} {size size' n n' : Nat} {v u : Value} {xs ys : List Value} (h : w.ownsRow B e size v n xs) (k : w.ownsRow B' e' size' u n' ys) (hne : e ≠ e') : Apart v u := by
  intro g hv hu
  rcases k.2 with ⟨rfl, _⟩ | ⟨g', cap, cur, rfl, _, hh, _⟩
  · simp [Value.ownBlock] at hu
  · simp [Value.ownBlock] at hu
    subst hu
    exact own_ne h hh hne hv
/-- A row among older blocks, and one among newer ones. -/
theorem own_new {w w' : World} {B B' : Nat} {e e' : TypeId} {size size' n n' : Nat} {v u : Value} {xs ys : List Value} (h : w.ownsRow B e size v n xs) (k : w'.ownsRow B' e' size' u n' ys) (hB : w.heap.size ≤ B') : Apart v u := by
  intro g hv hu
  have h1 := (h.lt g hv).2
  have h2 := (k.lt g hu).1
  omega
theorem cells_one (w : World) (u : Value) (t : TypeId) : ∀ (j : Nat) (x : Value), [u][j]? = some x → (w.alloc (.cells #[u] t)).cell? ((⟨w.heap.size, 0, none⟩ : Addr).add j) = some x := by
  intro j x hj
  match j, hj with
  | 0, hj =>
    simp at hj
    subst hj
    rw [addr_add, cell_of_row _ _ 0 #[u] t (0, 0) (heap_alloc_new w _)]
    rfl
theorem one_slice (A : Option Addr) (n c : Nat) : ∀ x ∈ [Value.slice A n c], x.oneCell' = true := by
  intro x hx
  simp at hx
  subst hx
  rfl
/-- A store into a block of another type keeps a row. -/
theorem own_set {w : World} {B b : Nat} {cs : Array Value} {t e : TypeId} {fz : Nat × Nat} {v : Value} {n size : Nat} {xs : List Value} (h : w.ownsRow B e size v n xs) (hb : w.heap[b]? = some (.cells cs t fz)) (hne : e ≠ t) (i : Nat) (u : Value) :
    (w.setCell ⟨b, i, none⟩ u).ownsRow B e size v n xs := by
  have h1 := own_ne h hb hne
  refine ⟨h.1, ?_⟩
  rcases h.2 with hn | ⟨g, cap, cur, rfl, hB, hg, rest⟩
  · exact .inl hn
  · refine .inr ⟨g, cap, cur, rfl, hB, ?_, rest⟩
    rw [Below.heap_setCell w ⟨b, i, none⟩ u g (fun e1 => h1 (by rw [show g = b from e1]; rfl))]
    exact hg
theorem own_low {w : World} {B B' : Nat} {e : TypeId} {size n : Nat} {v : Value} {xs : List Value} (h : w.ownsRow B e size v n xs) (hB : B' ≤ B) : w.ownsRow B' e size v n xs := by
  refine ⟨h.1, ?_⟩
  rcases h.2 with hn | ⟨g, cap, cur, rfl, hb, rest⟩
  · exact .inl hn
  · exact .inr ⟨g, cap, cur, rfl, Nat.le_trans hB hb, rest⟩
theorem own_heap {w w' : World} (hh : w'.heap = w.heap) {B : Nat} {e : TypeId} {size n : Nat} {v : Value} {xs : List Value} (h : w.ownsRow B e size v n xs) : w'.ownsRow B e size v n xs := by
  refine ⟨h.1, ?_⟩
  rcases h.2 with hn | ⟨g, cap, cur, rfl, hB, hg, rest⟩
  · exact .inl hn
  · exact .inr ⟨g, cap, cur, rfl, hB, by rw [hh]; exact hg, rest⟩
/-- The i-th list of a list of lists, and where it lies. -/
theorem row_cell {w : World} {B : Nat} {e : TypeId} {A : Option Addr} {cap : Nat} {xs : List Value} (h : w.ownsRow B e 1 (.slice A xs.length cap) xs.length xs) {k : Nat} (hk : k < xs.length) :
    ∃ b, A = some ⟨b, 0, none⟩ ∧ b < w.heap.size ∧ w.cell? ⟨b, k, none⟩ = some xs[k] := by
  obtain ⟨hl, h⟩ := h
  rcases h with ⟨e1, h0⟩ | ⟨g, c, cur, e1, hb, hg, hnc, hcm, hcs, ht⟩
  · omega
  · cases e1
    refine ⟨g, rfl, (Array.getElem?_eq_some_iff.1 hg).1, ?_⟩
    rw [cell_of_row w g k cur e (0, 0) hg]
    have h2 : xs[k]? = some xs[k] := List.getElem?_eq_getElem hk
    have h3 : (cur.toList.take (xs.length * 1))[k]? = some xs[k] := by rw [ht]; exact h2
    rw [List.getElem?_take] at h3
    split at h3
    · simpa using h3
    · cases h3
theorem grownBy_of_below {w w' : World} (h : Below w.heap.size w w') (row : Option Nat) : w.grownBy w' row := ⟨h.os, h.tape, h.output, h.size, fun k hk _ => h.block k hk⟩
theorem grown_drew {w w' : World} {row : Option Nat} (h : w.grownBy w' row) : w.grownBy w'.drew row := ⟨h.os, h.tape, h.output, h.size, h.block⟩
theorem below_of_grown {w w' : World} {row : Option Nat} {B : Nat} (h : w.grownBy w' row) (hr : ∀ g, row = some g → B ≤ g) (hB : B ≤ w.heap.size := by omega) : Below B w w' :=
  ⟨h.os, h.tape, h.output, h.size, fun k hk => h.block k (by omega) (fun e => by have := hr k e.symm; omega)⟩
theorem slice_hi (s : ByteArray) (i : Int) (k : Nat) (e : i = k) (h : k ≤ s.size) (w : World) :
    (Instr.slice 9 (.string s) none (some (.int .i64 i)) none).run Tryz.prog w = .ok (.string (s.extract 0 k)) w := by
  subst e
  rw [run_slice_string_h w 9 s Tryz.underlying9 .i64 (k : Int) (by omega) (by omega)]
  rfl
theorem slice_lohi (s : ByteArray) (i j : Int) (k m : Nat) (e : i = k) (e2 : j = m) (h : k ≤ m) (h2 : m ≤ s.size) (w : World) :
    (Instr.slice 9 (.string s) (some (.int .i64 i)) (some (.int .i64 j)) none).run Tryz.prog w = .ok (.string (s.extract k m)) w := by
  subst e; subst e2
  rw [run_slice_string w 9 s .i64 .i64 (k : Int) (m : Int) Tryz.underlying9 (by omega) (by omega) (by omega)]
  rfl
end Go.Proofs.YtpifhjdbcdcelaaGreatDoor

namespace Go.Proofs.YtpifhjdbcdcelaaGreatDoor
set_option linter.unusedSimpArgs false
set_option maxRecDepth 100000
/-- A count's digits; a count of 0 has none. -/
def dg (n : Nat) : List UInt8 := if n = 0 then [] else if n < 10 then [UInt8.ofNat (48 + n)] else [UInt8.ofNat (48 + n / 10), UInt8.ofNat (48 + n % 10)]
theorem dg_nil (n : Nat) : dg n = [] ↔ n = 0 := by
  unfold dg
  split
  · simp [*]
  · split <;> simp [*]
theorem dg_len (n : Nat) : (dg n).length ≤ 2 := by
  unfold dg
  split
  · simp
  · split <;> simp
theorem dg_digit (n : Nat) (h : n < 100) : ∀ d ∈ dg n, 48 ≤ d.toNat ∧ d.toNat ≤ 57 := by
  have := (by decide +kernel : ∀ n < 100, ∀ d ∈ dg n, 48 ≤ d.toNat ∧ d.toNat ≤ 57)
  exact this n h
/-- How many nines stand at the end. -/
def ninesStep (a : Nat) (d : UInt8) : Nat := if d = 57 then a + 1 else 0
def nines (l : List UInt8) : Nat := l.foldl ninesStep 0
theorem nines_snoc (l : List UInt8) (d : UInt8) : nines (l ++ [d]) = if d = 57 then nines l + 1 else 0 := by simp [nines, ninesStep]
theorem snocRec {α : Type} {P : List α → Prop} (h0 : P []) (h1 : ∀ l d, P l → P (l ++ [d])) (l : List α) : P l := by
  have : ∀ r : List α, P r.reverse := by
    intro r
    induction r with
    | nil => exact h0
    | cons d r ih => rw [List.reverse_cons]; exact h1 _ _ ih
  have := this l.reverse
  rwa [List.reverse_reverse] at this
theorem nines_le (l : List UInt8) : nines l ≤ l.length := by
  refine snocRec (P := fun l => nines l ≤ l.length) (by simp [nines]) (fun l d ih => ?_) l
  simp only [nines_snoc, List.length_append, List.length_singleton]
  split <;> omega
theorem nines_at (l : List UInt8) : nines l < l.length → l.getD (l.length - 1 - nines l) 0 ≠ 57 := by
  refine snocRec (P := fun l => nines l < l.length → l.getD (l.length - 1 - nines l) 0 ≠ 57) (fun h => by simp [nines] at h) (fun l d ih => ?_) l
  intro h
  rw [nines_snoc] at h ⊢
  simp only [List.length_append, List.length_singleton] at h ⊢
  by_cases h9 : d = 57
  · rw [if_pos h9] at h ⊢
    have := ih (by omega)
    rw [show l.length + 1 - 1 - (nines l + 1) = l.length - 1 - nines l from by omega, List.getD_eq_getElem?_getD, List.getElem?_append_left (by omega), ← List.getD_eq_getElem?_getD]
    exact this
  · rw [if_neg h9]
    simpa using h9
/-- The digits of the next count. -/
def oneMoreL (l : List UInt8) : List UInt8 :=
  if nines l = l.length then 49 :: List.replicate (nines l) 48
  else l.take (l.length - 1 - nines l) ++ [l.getD (l.length - 1 - nines l) 0 + 1] ++ List.replicate (nines l) 48
theorem oneMore_dg (n : Nat) (h : n < 99) : oneMoreL (dg n) = dg (n + 1) := by
  have := (by decide +kernel : ∀ n < 99, oneMoreL (dg n) = dg (n + 1))
  exact this n h
/-- One count behind others. -/
def numStep (acc d : List UInt8) : List UInt8 := if d = [] then acc else if acc = [] then d else acc ++ 46 :: d
def numL (ds : List (List UInt8)) : List UInt8 := ds.foldl numStep []
theorem numL_snoc (ds : List (List UInt8)) (d : List UInt8) : numL (ds ++ [d]) = numStep (numL ds) d := by simp [numL]
theorem numStep_len (a d : List UInt8) : (numStep a d).length ≤ a.length + d.length + 1 := by
  unfold numStep
  split
  · simp [*] <;> omega
  · split <;> simp [*] <;> omega
/-- The counts behind one more of level k (1 to 6). -/
def cntStep (n : List Nat) (k : Nat) : List Nat := n.take (k - 1) ++ (n.getD (k - 1) 0 + 1) :: List.replicate (6 - k) 0
theorem cntStep_len (n : List Nat) (k : Nat) (hn : n.length = 6) (h1 : 1 ≤ k) (h2 : k ≤ 6) : (cntStep n k).length = 6 := by
  unfold cntStep
  simp [List.length_take]
  omega
theorem cntStep_mem (n : List Nat) (k m : Nat) (h : ∀ x ∈ n, x ≤ m) : ∀ x ∈ cntStep n k, x ≤ m + 1 := by
  intro x hx
  unfold cntStep at hx
  rcases List.mem_append.1 hx with hx | hx
  · have := h x (List.mem_of_mem_take hx); omega
  · rcases List.mem_cons.1 hx with rfl | hx
    · rw [List.getD_eq_getElem?_getD]
      cases hg : n[k - 1]? with
      | none => simp
      | some y => have := h y (List.mem_of_getElem? hg); simp; omega
    · have := (List.mem_replicate.1 hx).2; omega
def okLevel (k : Int) : Bool := decide (1 ≤ k) && decide (k ≤ 6)
/-- The counts behind levels. -/
def cntOne (n : List Nat) (k : Int) : List Nat := if okLevel k then cntStep n k.toNat else n
def cntAll (n : List Nat) (l : List Int) : List Nat := l.foldl cntOne n
/-- One number. -/
def numOne (n : List Nat) (k : Int) : List UInt8 := if okLevel k then numL ((cntStep n k.toNat).map dg) else []
def allGo (n : List Nat) : List Int → List (List UInt8)
  | [] => []
  | k :: r => numOne n k :: allGo (cntOne n k) r
def zero6 : List Nat := [0, 0, 0, 0, 0, 0]
def allN (l : List Int) : List (List UInt8) := allGo zero6 l
theorem allGo_len (l : List Int) : ∀ n, (allGo n l).length = l.length := by
  induction l with
  | nil => intro n; rfl
  | cons k r ih => intro n; simp [allGo, ih]
theorem allN_len (l : List Int) : (allN l).length = l.length := allGo_len l _
theorem allGo_append (a b : List Int) : ∀ n, allGo n (a ++ b) = allGo n a ++ allGo (cntAll n a) b := by
  induction a with
  | nil => intro n; rfl
  | cons k r ih => intro n; simp [allGo, ih, cntAll]
theorem cntAll_snoc (n : List Nat) (l : List Int) (k : Int) : cntAll n (l ++ [k]) = cntOne (cntAll n l) k := by simp [cntAll]
theorem allN_snoc (l : List Int) (k : Int) : allN (l ++ [k]) = allN l ++ [numOne (cntAll zero6 l) k] := by
  unfold allN
  rw [allGo_append]
  rfl
theorem cntOne_len (n : List Nat) (k : Int) (hn : n.length = 6) : (cntOne n k).length = 6 := by
  unfold cntOne
  split
  · rename_i h; simp [okLevel] at h; exact cntStep_len n _ hn (by omega) (by omega)
  · exact hn
theorem cntAll_len (l : List Int) (n : List Nat) (hn : n.length = 6) : (cntAll n l).length = 6 := by
  refine snocRec (P := fun l => (cntAll n l).length = 6) hn (fun l d ih => ?_) l
  show (cntAll n (l ++ [d])).length = 6
  rw [cntAll_snoc]
  exact cntOne_len _ _ ih
theorem cntAll_mem (l : List Int) : ∀ x ∈ cntAll zero6 l, x ≤ l.length := by
  refine snocRec (P := fun l => ∀ x ∈ cntAll zero6 l, x ≤ l.length) (by decide) (fun l d ih => ?_) l
  show ∀ x ∈ cntAll zero6 (l ++ [d]), x ≤ (l ++ [d]).length
  rw [cntAll_snoc]
  intro x hx
  unfold cntOne at hx
  split at hx
  · have := cntStep_mem _ _ _ ih x hx; simp; omega
  · have := ih x hx; simp; omega
theorem numL_len (n : List Nat) : (numL (n.map dg)).length ≤ 3 * n.length := by
  refine snocRec (P := fun n => (numL (n.map dg)).length ≤ 3 * n.length) (by simp [numL]) (fun n x ih => ?_) n
  show (numL ((n ++ [x]).map dg)).length ≤ 3 * (n ++ [x]).length
  rw [List.map_append, List.map_cons, List.map_nil, numL_snoc]
  have h1 := numStep_len (numL (n.map dg)) (dg x)
  have h2 := dg_len x
  simp at *
  omega
/-- The law's own counts while greater levels are put back. -/
def cJ (c : List Nat) (k : Nat) : Nat → List Nat
  | 0 => c
  | j + 1 => if j > k then (cJ c k j).set j 0 else cJ c k j
theorem cJ_len (c : List Nat) (k : Nat) : ∀ j, (cJ c k j).length = c.length
  | 0 => rfl
  | j + 1 => by unfold cJ; split <;> simp [cJ_len c k j]
theorem cJ_take (c : List Nat) (k j : Nat) : (cJ c k (j + 1)).take j = (cJ c k j).take j := by
  rw [cJ]
  split
  · rw [List.take_set_of_le (Nat.le_refl _)]
  · rfl
theorem cJ_mem (c : List Nat) (k m : Nat) (h : ∀ x ∈ c, x ≤ m) : ∀ j, ∀ x ∈ cJ c k j, x ≤ m
  | 0 => h
  | j + 1 => by
    intro x hx
    unfold cJ at hx
    split at hx
    · rcases List.mem_or_eq_of_mem_set hx with hx | rfl
      · exact cJ_mem c k m h j x hx
      · omega
    · exact cJ_mem c k m h j x hx
theorem cJ_all (n : List Nat) (k : Nat) (hn : n.length = 6) (h1 : 1 ≤ k) (h6 : k ≤ 6) : cJ ((0 :: n).set k ((0 :: n).getD k 0 + 1)) k 7 = 0 :: cntStep n k := by
  match n, hn with
  | [a, b, c, d, e, f], _ =>
    have hk : k = 1 ∨ k = 2 ∨ k = 3 ∨ k = 4 ∨ k = 5 ∨ k = 6 := by omega
    rcases hk with rfl | rfl | rfl | rfl | rfl | rfl <;> rfl
theorem cJ_one (c : List Nat) (k : Nat) : cJ c k 1 = c := by
  unfold cJ cJ
  rw [if_neg (by omega)]
theorem dg_dec (n : Nat) (h1 : 1 ≤ n) (h2 : n < 100) : dg n = Lib.decDigits n := by
  unfold dg
  rw [if_neg (by omega)]
  by_cases h : n < 10
  · rw [if_pos h, Lib.decDigits_one h]
  · rw [if_neg h, Lib.decDigits_two h h2]
end Go.Proofs.YtpifhjdbcdcelaaGreatDoor

namespace Go.Proofs.YtpifhjdbcdcelaaGreatDoor
open Go.RowKit
set_option linter.unusedSimpArgs false
set_option linter.unusedVariables false
set_option maxRecDepth 100000
theorem enc_small (q : Nat) (h : q < 128) : Utf8.encode (q : Int) = ⟨#[UInt8.ofNat q]⟩ := by
  have hv : Utf8.valid (q : Int) = true := by unfold Utf8.valid; simp; omega
  unfold Utf8.encode
  simp [hv, h]
theorem repeatL_one48 (n : Nat) : Lib.repeatL [48] n = List.replicate n 48 := by
  induction n with
  | zero => rfl
  | succ n ih => rw [Lib.repeatL, ih]; rfl
theorem enc_next (b : UInt8) (h : b.toNat < 57) : Utf8.encode ((b.toNat : Int) + 1) = ⟨#[b + 1]⟩ := by
  have := enc_small (b.toNat + 1) (by omega)
  rw [show ((b.toNat + 1 : Nat) : Int) = (b.toNat : Int) + 1 from by omega] at this
  rw [this, show UInt8.ofNat (b.toNat + 1) = b + 1 from UInt8.toNat_inj.1 (by simp [UInt8.toNat_add])]
def OmRel (s : ByteArray) (w : World) (z : Value) (wr : World) : Prop :=
  ∃ k : Nat, z = .int .i64 ((k : Int) - 1 - (nines (s.data.toList.take k) : Int)) ∧ k ≤ s.size ∧ wr.heap[w.heap.size]? = some (.stringIter s k) ∧ Below w.heap.size w wr
set_option maxHeartbeats 400000 in
theorem oneMore_at (s : ByteArray) (w : World) (hs : s.size ≤ 100) (hd : ∀ d ∈ s.data.toList, 48 ≤ d.toNat ∧ d.toNat ≤ 57) :
    Calls Tryz.prog 58 #[.string s] w fun e w' => e = .returned (.string ⟨(oneMoreL s.data.toList).toArray⟩) ∧ Below w.heap.size w w' := by
  have HD := Lib.hid hd
  obtain ⟨res, hR⟩ : ∃ res, res = oneMoreL s.data.toList := ⟨_, rfl⟩
  rw [← hR]
  have HR := Lib.hid hR
  clear hd hR
  go_enter Tryz.func58, Tryz.ntmps58
  go_wp2_with fail
  go_loopw [3] (fun z wr => OmRel s w z wr) (fun _ wr => s.size - wr.iterPos w.heap.size)
  case atStart =>
    exact ⟨0, rfl, Nat.zero_le _, World.iter_heap w s 0, (Below.refl _ w).alloc (Nat.le_refl _) _⟩
  case round =>
    obtain ⟨k, rfl, hk, hit, hbw⟩ := hrel
    have hsz : w.heap.size < wr.heap.size := (Array.getElem?_eq_some_iff.1 hit).1
    by_cases hp : k < s.size
    · have hdk := HD.out s[k] (by rw [ByteArray.getElem_eq_getElem_data]; exact List.getElem_mem (l := s.data.toList) _)
      have hnx : ∀ ty, (Instr.next (.pointer (some ⟨w.heap.size, 0, none⟩)) true ty).run Tryz.prog wr = _ := fun ty => Lib.run_next_ascii_at wr w.heap.size s k ty hit hp (by omega)
      have hit2 := Lib.iterAt_heap wr w.heap.size s k (k + 1) hit
      have hbw2 := Lib.below_iterAt hbw (k := w.heap.size) (by omega) s (k + 1)
      have hst : s.data.toList.take (k + 1) = s.data.toList.take k ++ [s[k]] := List.take_succ_eq_append_getElem (by simpa using hp)
      have hni := nines_snoc (s.data.toList.take k) s[k]
      rw [← hst] at hni
      generalize nines (s.data.toList.take k) = n0 at *
      have HIT := Lib.hid hit2
      have HIT0 := Lib.hid hit
      have HBW := Lib.hid hbw2
      clear hit hit2 hbw hbw2 hst
      by_cases h9 : s[k] = 57
      · rw [if_pos h9] at hni
        have HN := Lib.hid hni
        have hq : ((s[k].toNat : Int) != 57) = false := by rw [h9]; rfl
        clear hni h9
        go_wp2
        go_roundw
        case rel => exact ⟨k + 1, by rw [HN.out]; congr 1; omega, by omega, HIT.out, HBW.out⟩
        case measure => simp only [World.iterPos, HIT.out, HIT0.out]; omega
      · rw [if_neg h9] at hni
        have HN := Lib.hid hni
        have hq : ((s[k].toNat : Int) != 57) = true := by
          rw [bne_iff_ne]; intro e; apply h9; apply UInt8.toNat_inj.1; show _ = 57; omega
        clear hni h9
        go_wp2
        go_roundw
        case rel => exact ⟨k + 1, by rw [HN.out]; congr 1; omega, by omega, HIT.out, HBW.out⟩
        case measure => simp only [World.iterPos, HIT.out, HIT0.out]; omega
    · have hnx : ∀ ty, (Instr.next (.pointer (some ⟨w.heap.size, 0, none⟩)) true ty).run Tryz.prog wr = _ := fun ty => Lib.run_next_end_at wr w.heap.size s k ty hit hp
      obtain rfl : k = s.size := by omega
      rw [List.take_of_length_le (by simp)]
      have hle := nines_le s.data.toList
      have hsl : s.data.toList.length = s.size := by simp
      have hnat := nines_at s.data.toList
      rw [hsl] at hnat
      have hres : res = if nines s.data.toList = s.size then 49 :: List.replicate (nines s.data.toList) 48 else s.data.toList.take (s.size - 1 - nines s.data.toList) ++ [s.data.toList.getD (s.size - 1 - nines s.data.toList) 0 + 1] ++ List.replicate (nines s.data.toList) 48 := by rw [HR.out]; unfold oneMoreL; rw [hsl]
      rw [hsl] at hle
      generalize nines s.data.toList = n at *
      have cr := fun W => Tryz.strings_Repeat ⟨#[48]⟩ n W (by omega) (by show 1 * n ≤ _; omega)
      have hrl : (⟨(Lib.repeatL (⟨#[48]⟩ : ByteArray).data.toList n).toArray⟩ : ByteArray) = ⟨(List.replicate n 48).toArray⟩ := by rw [← repeatL_one48]
      rw [show (⟨(Lib.repeatL (⟨#[48]⟩ : ByteArray).data.toList n).toArray⟩ : ByteArray) = ⟨(List.replicate n 48).toArray⟩ from hrl] at cr
      have hzs : (⟨(List.replicate n 48).toArray⟩ : ByteArray).size = n := by rw [str_size]; simp
      by_cases hall : n = s.size
      · rw [if_pos hall] at hres
        subst hall
        have hz : (s.size : Int) - 1 - (s.size : Int) = -1 := by omega
        rw [hz]
        have r1 := fun W => run_string_add_sum (P := Tryz.prog) W (⟨#[49]⟩ : ByteArray) (⟨(List.replicate s.size 48).toArray⟩ : ByteArray) (by rw [hzs]; show 1 + s.size ≤ _; omega)
        rw [show (⟨#[49]⟩ : ByteArray) ++ (⟨(List.replicate s.size 48).toArray⟩ : ByteArray) = ⟨res.toArray⟩ from by rw [hres]; apply ByteArray.ext; apply Array.ext'; simp] at r1
        have CR := Lib.hid cr
        have HBW := Lib.hid hbw
        clear hit hbw hres hrl cr hsl hnat hz hle hzs
        generalize (⟨(List.replicate s.size 48).toArray⟩ : ByteArray) = Z at *
        go_wp2_with fail
        refine (CR.out _).mono ?_
        rintro e w1 ⟨rfl, b1⟩
        go_wp2
        go_ret
        exact ⟨rfl, HBW.out.then b1⟩
      · obtain ⟨m, hm⟩ : ∃ m, s.size = m + 1 + n := ⟨s.size - 1 - n, by omega⟩
        have hm2 : s.size - 1 - n = m := by omega
        rw [if_neg hall, hm2] at hres
        have hz : (s.size : Int) - 1 - (n : Int) = (m : Int) := by omega
        rw [hz]
        have hz2 : (s.size : Int) - 1 - (m : Int) = (n : Int) := by omega
        have hml : m < s.size := by omega
        have hmd := HD.out s[m] (by rw [ByteArray.getElem_eq_getElem_data]; exact List.getElem_mem (l := s.data.toList) _)
        have hgd : s.data.toList.getD m 0 = s[m] := by rw [List.getD_eq_getElem?_getD, List.getElem?_eq_getElem (by simpa using hml)]; rfl
        rw [hgd] at hres
        have hw8 : IntKind.u8.wrap ((s[m].toNat : Int) + 1) = (s[m].toNat : Int) + 1 := by rw [IntKind.wrap_u8]; omega
        have hm57 : s[m].toNat < 57 := by
          have h1 := hnat (by omega)
          rw [hm2, hgd] at h1
          have h2 : s[m].toNat ≠ 57 := fun e => h1 (UInt8.toNat_inj.1 e)
          omega
        have henc := enc_next s[m] hm57
        have hsl2 := fun W => slice_hi s (m : Int) m rfl (by omega) W
        have r1 := fun W => run_string_add_sum (P := Tryz.prog) W (s.extract 0 m) (⟨#[s[m] + 1]⟩ : ByteArray) (by rw [ByteArray.size_extract]; show _ + 1 ≤ _; omega)
        have r2 := fun W => run_string_add_sum (P := Tryz.prog) W (s.extract 0 m ++ (⟨#[s[m] + 1]⟩ : ByteArray)) (⟨(List.replicate n 48).toArray⟩ : ByteArray) (by rw [ByteArray.size_append, ByteArray.size_extract, hzs]; show _ + 1 + n ≤ _; omega)
        rw [show s.extract 0 m ++ (⟨#[s[m] + 1]⟩ : ByteArray) ++ (⟨(List.replicate n 48).toArray⟩ : ByteArray) = ⟨res.toArray⟩ from by rw [hres]; apply ByteArray.ext; apply Array.ext'; simp] at r2
        have CR := Lib.hid cr
        have HBW := Lib.hid hbw
        clear hit hbw hres hrl cr hsl hnat hz hle hzs hgd hm2 hm57 hmd hall
        generalize (⟨(List.replicate n 48).toArray⟩ : ByteArray) = Z at *
        have HM := Lib.hid hm
        have R1 := Lib.hid r1
        have R2 := Lib.hid r2
        have HW8 := Lib.hid hw8
        have HEN := Lib.hid henc
        have HS2 := Lib.hid hsl2
        have hm0 : decide ((m : Int) < 0) = false := by simp
        clear hm r1 r2 hw8 henc hsl2
        go_wp2_with fail
        refine (CR.out _).mono ?_
        rintro e w1 ⟨rfl, b1⟩
        clear hz2 hnx
        go_wp2_with fail
        have r1 := R1.out
        have r2 := R2.out
        have hw8 := HW8.out
        have henc := HEN.out
        have hsl2 := HS2.out
        go_quiet (fail)
        go_wp2
        go_ret
        exact ⟨rfl, HBW.out.then (below_drewN' b1 _)⟩
end Go.Proofs.YtpifhjdbcdcelaaGreatDoor

namespace Go.Proofs.YtpifhjdbcdcelaaGreatDoor
set_option linter.unusedVariables false
section
variable {P : Program} {ops : Array Oper} {Q : Exit → Act → World → Prop} {md : Region.Mode} {S : World → Prop} {pre : Nat → Bool}
theorem listed_both {listed : Array Bool} {i : Nat} (h : listed.getD i true = false) : listed.getD i false = false := by
  rcases Nat.lt_or_ge i listed.size with h' | h'
  · simp [h'] at h ⊢; exact h
  · simp [Array.getElem?_eq_none h'] at h
/-- May the last ones come up in this order alone? -/
def seqN (md : Region.Mode) (ops : Array Oper) : Nat → Nat → Array Bool → Bool
  | 0, _, listed => (Region.ready md ops listed).isEmpty
  | g + 1, k, listed => decide (Region.ready md ops listed = [k]) && seqN md ops g (k + 1) (listed.setIfInBounds k true)
/-- Whatever order is picked from here on; behind what is 'pre' S holds. -/
def wpAnyN (P : Program) (md : Region.Mode) (ops : Array Oper) (Q : Exit → Act → World → Prop) (S : World → Prop) (pre : Nat → Bool) : Nat → Array Bool → Act → World → Prop
  | 0, listed, a, w => Region.ready md ops listed = [] ∧ Q .normal a w
  | fuel + 1, listed, a, w =>
    (Region.ready md ops listed = [] → Q .normal a w) ∧
    ∀ i ∈ Region.ready md ops listed, wpOp P ops Q i (fun a' w' => (pre i = true → S w') ∧ wpAnyN P md ops Q S pre fuel (listed.setIfInBounds i true) a' w') a w
theorem wpAny_of_N : ∀ (fuel : Nat) (listed : Array Bool) (a : Act) (w : World), wpAnyN P md ops Q S pre fuel listed a w → wpAny P md ops Q fuel listed a w
  | 0, _, _, _, h => h
  | fuel + 1, _, _, _, h => ⟨h.1, fun i hi => wpOp_mono (fun a' w' h' => wpAny_of_N fuel _ a' w' h'.2) (h.2 i hi)⟩
theorem wp_region_N {id : Nat} {a : Act} {w : World} (S : World → Prop) (pre : Nat → Bool) (hm : P.follows .mixedOrders = true)
    (h : wpAnyN P .any ops Q S pre ops.size (Array.replicate ops.size false) a w.drew) : (Code.region id ops true).wp P Q a w :=
  wp_region_any hm (wpAny_of_N _ _ _ _ h)
/-- What is in E waits for number i, by way of others in E. -/
def waitsB (md : Region.Mode) (ops : Array Oper) (listed : Array Bool) (i : Nat) (E : Nat → Bool) (pre : Nat → Bool) : Bool :=
  (List.range ops.size).all fun j => (E j || pre j) && (!E j || (!listed.getD j false && ((ops[j]?).map fun o => o.after.any fun e => Region.binds md e && (e.on == i || E e.on)).getD false))
theorem waitsB_spec {listed : Array Bool} {i : Nat} {E : Nat → Bool} (h : waitsB md ops listed i E pre = true) :
    (∀ j, j < ops.size → pre j = false → E j = true) ∧ (∀ j, j < ops.size → E j = true → listed.getD j false = false) ∧
      (∀ j oj, ops[j]? = some oj → E j = true → ∃ e ∈ oj.after, Region.binds md e = true ∧ (e.on = i ∨ E e.on = true)) := by
  have hall : ∀ j, j < ops.size → (E j = true ∨ pre j = true) ∧ (E j = false ∨ (listed.getD j false = false ∧ ((ops[j]?).map fun o => o.after.any fun e => Region.binds md e && (e.on == i || E e.on)).getD false = true)) := by
    intro j hj
    have := List.all_eq_true.1 h j (List.mem_range.2 hj)
    simp only [Bool.and_eq_true, Bool.or_eq_true, Bool.not_eq_true'] at this
    exact this
  refine ⟨fun j hj hp => ?_, fun j hj he => ?_, fun j oj hoj he => ?_⟩
  · rcases (hall j hj).1 with h1 | h1
    · exact h1
    · rw [hp] at h1; cases h1
  · rcases (hall j hj).2 with h1 | h1
    · rw [he] at h1; cases h1
    · exact h1.1
  · have hj : j < ops.size := (Array.getElem?_eq_some_iff.1 hoj).1
    rcases (hall j hj).2 with h1 | h1
    · rw [he] at h1; cases h1
    · have h2 := h1.2
      rw [hoj] at h2
      simp only [Option.map_some, Option.getD_some] at h2
      obtain ⟨e, hem, hb⟩ := Array.any_eq_true'.1 h2
      simp only [Bool.and_eq_true, Bool.or_eq_true, beq_iff_eq] at hb
      exact ⟨e, hem, hb.1, hb.2⟩
/-- A load that may come up now may be taken first. -/
theorem wpAnyN_first {i : Nat} {oi : Oper} {v : Value} {E : Nat → Bool} (hi : ops[i]? = some oi) (hsel : ∀ (j : Nat) (o : Oper) cs b, ops[j]? = some o → o.op ≠ .select cs b)
    (hQ : ∀ c a w, Q (.panic c) (a.put oi.dst v) w → Q (.panic c) a w)
    (hE1 : ∀ j, j < ops.size → pre j = false → E j = true) (hE3 : ∀ j oj, ops[j]? = some oj → E j = true → ∃ e ∈ oj.after, Region.binds md e = true ∧ (e.on = i ∨ E e.on = true)) :
    ∀ (fuel : Nat) (listed : Array Bool) (a : Act) (w : World),
      (∀ j oj, ops[j]? = some oj → j ≠ i → listed.getD j true = false → (∀ e ∈ oj.after, Region.binds md e = true → e.on ≠ i) → oi.apart ops oj = true) →
      i ∈ Region.ready md ops listed → YieldsIf P ops S oi v a → S w → (∀ j, j < ops.size → E j = true → listed.getD j false = false) → listed.size = ops.size →
      wpAnyN P md ops Q S pre fuel (listed.setIfInBounds i true) (a.put oi.dst v) w → wpAnyN P md ops Q S pre (fuel + 1) listed a w := by
  intro fuel
  induction fuel with
  | zero =>
    intro listed a w _ hr hy hS _ _ H
    refine ⟨fun h => (by rw [h] at hr; cases hr), fun j hj => ?_⟩
    by_cases hji : j = i
    · subst hji; exact hy.wpOp hi hS ⟨fun _ => hS, H⟩
    · have := ready_mono hj hji
      rw [H.1] at this
      cases this
  | succ fuel ih =>
    intro listed a w hfree hr hy hS hE2 hsz H
    refine ⟨fun h => (by rw [h] at hr; cases hr), fun j hj => ?_⟩
    by_cases hji : j = i
    · subst hji; exact hy.wpOp hi hS ⟨fun _ => hS, H⟩
    · have h1 := H.2 j (ready_mono hj hji)
      obtain ⟨hjun, oj, hoj, hall⟩ := mem_ready.1 hj
      have hjs : j < ops.size := (Array.getElem?_eq_some_iff.1 hoj).1
      have hiun : listed.getD i false = false := listed_both (mem_ready.1 hr).1
      have hnot : ∀ e ∈ oj.after, Region.binds md e = true → e.on ≠ i := fun e he hb heq => by
        have h1 := hall e he hb
        rw [heq, hiun] at h1
        cases h1
      have hEj : E j = false := by
        cases hx : E j with
        | false => rfl
        | true =>
          obtain ⟨e, he, hb, h2⟩ := hE3 j oj hoj hx
          have h3 := hall e he hb
          rcases h2 with h2 | h2
          · exact absurd h2 (hnot e he hb)
          · have hes : e.on < ops.size := by
              rcases Nat.lt_or_ge e.on listed.size with h' | h'
              · omega
              · simp [Array.getElem?_eq_none h'] at h3
            rw [hE2 e.on hes h2] at h3
            cases h3
      have hpj : pre j = true := by
        cases hx : pre j with
        | true => rfl
        | false => rw [hE1 j hjs hx] at hEj; cases hEj
      have h2 := wpOp_putIf hoj (hfree j oj hoj hji hjun hnot) (fun cs b => hsel i oi cs b hi) (fun cs b => hsel j oj cs b hoj) hQ hy h1
      have hfree' : ∀ k ok, ops[k]? = some ok → k ≠ i → (listed.setIfInBounds j true).getD k true = false →
          (∀ e ∈ ok.after, Region.binds md e = true → e.on ≠ i) → oi.apart ops ok = true := fun k ok hk hki hun hno => by
        refine hfree k ok hk hki ?_ hno
        by_cases hjk : j = k
        · subst hjk; exact hjun
        · rw [getD_set_ne true hjk] at hun; exact hun
      have hE2' : ∀ k, k < ops.size → E k = true → (listed.setIfInBounds j true).getD k false = false := fun k hk he => by
        have hjk : j ≠ k := fun e => by subst e; rw [he] at hEj; cases hEj
        rw [getD_set_ne false hjk]
        exact hE2 k hk he
      refine wpOp_mono (fun a' w' h3 => ⟨h3.2.1, ih (listed.setIfInBounds j true) a' w' hfree' (ready_mono hr (Ne.symm hji)) h3.1 (h3.2.1 hpj) hE2' (by simp [hsz]) ?_⟩) h2
      rw [Array.setIfInBounds_comm _ _ hji]
      exact h3.2.2
/-- What waits for number i, by way of others. -/
def descA (md : Region.Mode) (ops : Array Oper) (i : Nat) : Array Bool :=
  (List.range ops.size).foldl (fun arr j => arr.push (((ops[j]?).map fun o => o.after.any fun e => Region.binds md e && (e.on == i || arr.getD e.on false)).getD false)) #[]
/-- The same, its conditions as Bools. -/
theorem wpAnyN_take {i : Nat} {oi : Oper} {v : Value} {fuel : Nat} {listed : Array Bool} {a : Act} {w : World} (hi : ops[i]? = some oi)
    (hs : Region.noSelect ops = true) (hf : Region.free md ops listed i = true) (hr : (Region.ready md ops listed).contains i = true) (hw : waitsB md ops listed i (fun j => (descA md ops i).getD j false) pre = true) (hz : (listed.size == ops.size) = true)
    (hQ : ∀ c a w, Q (.panic c) (a.put oi.dst v) w → Q (.panic c) a w) (hy : YieldsIf P ops S oi v a) (hS : S w)
    (h : wpAnyN P md ops Q S pre fuel (listed.setIfInBounds i true) (a.put oi.dst v) w) : wpAnyN P md ops Q S pre (fuel + 1) listed a w := by
  obtain ⟨e1, e2, e3⟩ := waitsB_spec hw
  exact wpAnyN_first hi (Region.noSelect_spec hs) hQ e1 e3 fuel listed a w (Region.free_spec hi hf) (by simpa using hr) hy hS e2 (by simpa using hz) h
/-- The same, its slot told. -/
theorem wpAnyN_take_at (i : Nat) (d : Tmp) {oi : Oper} {v : Value} {fuel : Nat} {listed : Array Bool} {a : Act} {w : World} (hi : ops[i]? = some oi) (hd : oi.dst = some d)
    (hs : Region.noSelect ops = true) (hf : Region.free md ops listed i = true) (hr : (Region.ready md ops listed).contains i = true) (hw : waitsB md ops listed i (fun j => (descA md ops i).getD j false) pre = true) (hz : (listed.size == ops.size) = true)
    (hQ : ∀ c a w, Q (.panic c) (a.put (some d) v) w → Q (.panic c) a w) (hg : Region.wanted oi (yielded ops a.tmps) = true) (hv : ∀ w, S w → (execOp a.eval oi).run P w = .ok (.value v) w) (hS : S w)
    (h : wpAnyN P md ops Q S pre fuel (listed.setIfInBounds i true) (a.put (some d) v) w) : wpAnyN P md ops Q S pre (fuel + 1) listed a w := by
  refine wpAnyN_take (v := v) hi hs hf hr hw hz ?_ (Or.inl ⟨hg, hv⟩) hS ?_
  · rw [hd]; exact hQ
  · rw [hd]; exact h
/-- One alone may come up. -/
theorem wpAnyN_one {i : Nat} {o : Oper} {fuel : Nat} {listed : Array Bool} {a : Act} {w : World} (hi : ops[i]? = some o) (hr : Region.ready md ops listed = [i])
    (h : ∀ K : Act → World → Prop, (∀ a' w', (pre i = true → S w') → wpAnyN P md ops Q S pre fuel (listed.setIfInBounds i true) a' w' → K a' w') →
      if Region.wanted o (yielded ops a.tmps) = true then Oper.wp P o a w K Q else K (a.put o.dst undef) w) : wpAnyN P md ops Q S pre (fuel + 1) listed a w := by
  refine ⟨fun h0 => (by rw [hr] at h0; cases h0), fun j hj => ?_⟩
  rw [hr] at hj
  obtain rfl : j = i := by simpa using hj
  have hk := h (fun a' w' => (pre j = true → S w') ∧ wpAnyN P md ops Q S pre fuel (listed.setIfInBounds j true) a' w') (fun a' w' h1 h2 => ⟨h1, h2⟩)
  unfold wpOp
  simp only [hi]
  split
  · rename_i hw
    rw [if_pos hw] at hk
    exact .inl hk
  · rename_i hw
    rw [if_neg hw] at hk
    exact hk
/-- The rest comes up one behind the other. -/
theorem wpAnyN_seq : ∀ (l : List Oper) (k : Nat) (listed : Array Bool) (a : Act) (w : World), (∀ j, l[j]? = ops[k + j]?) → seqN md ops l.length k listed = true →
    (∀ j, k ≤ j → j < k + l.length → pre j = false) → wpList P ops Q l a w → wpAnyN P md ops Q S pre l.length listed a w
  | [], _, _, _, _, _, hB, _, h => ⟨by simpa [seqN] using hB, h⟩
  | o :: l, k, listed, a, w, hl, hB, hp, h => by
    have h0 : ops[k]? = some o := by simpa using (hl 0).symm
    simp only [List.length_cons, seqN, Bool.and_eq_true, decide_eq_true_eq] at hB
    refine ⟨fun h1 => (by rw [hB.1] at h1; cases h1), fun i hi => ?_⟩
    rw [hB.1] at hi
    have hik : i = k := by simpa using hi
    subst hik
    have hw : wpOp P ops Q i (wpList P ops Q l) a w := by unfold wpOp; simp only [h0]; exact h
    exact wpOp_mono (fun a' w' h' => ⟨fun hx => (by rw [hp i (Nat.le_refl _) (by simp)] at hx; cases hx),
      wpAnyN_seq l (i + 1) _ a' w' (fun j => by have := hl (j + 1); simpa [Nat.add_assoc, Nat.add_comm 1 j] using this) hB.2 (fun j h1 h2 => hp j (by omega) (by simp; omega)) h'⟩) hw
theorem wpAnyN_rest (k : Nat) (l : List Oper) {listed : Array Bool} {a : Act} {w : World} (hl : ops.toList.drop k = l) (hB : seqN md ops l.length k listed = true)
    (hp : ((List.range l.length).all fun j => !pre (k + j)) = true) (h : wpList P ops Q l a w) : wpAnyN P md ops Q S pre l.length listed a w := by
  refine wpAnyN_seq l k listed a w (fun j => ?_) hB (fun j h1 h2 => ?_) h
  · rw [← hl, List.getElem?_drop, Array.getElem?_toList]
  · have := List.all_eq_true.1 hp (j - k) (List.mem_range.2 (by omega))
    rw [show k + (j - k) = j from by omega] at this
    simpa using this
end
end Go.Proofs.YtpifhjdbcdcelaaGreatDoor
namespace Go.Proofs.YtpifhjdbcdcelaaGreatDoor
set_option linter.unusedVariables false
section
variable {P : Program} {ops : Array Oper} {Q : Exit → Act → World → Prop} {md : Region.Mode} {S : World → Prop}
end
end Go.Proofs.YtpifhjdbcdcelaaGreatDoor
