/-
  NARROWER THAN 'FOR EVERY INPUT', by the rows' own cells (each row's printed sentence says how): TokenWords: laid · TokenCodes: laid · TokenSigns: laid · TokenRuns: laid · TokenBreaks: laid · TokenAutos: laid · TokenTags: laid · TokenEntities: laid.
  DERIVED. THE GIVEN ROWS OF THIS SEAT. 8 by the template 'for every input the law returns true; each argument reads behind the call as it read before'; 0 by the template 'total and deterministic' (their statements: YtggdpmaomhmobaaGreatDoorTotals.lean).
  GIVEN WITH THE SEED: the statements are not yours to turn. If you find one false, say at which input.
  Laid BY PROGRAM, IN A SANDBOX (cutbox-rows.mjs): the forced cells as the released guide's own fill.sh prints them over the translation de94701787656754… (all of the seat's roots in one cut). By AI agents, Wed Nov 11 2026. No macro, syntax, notation, axiom, sorry.
-/
import Derived.Test.YtggdpmaomhmobaaGreatDoorChecked
import GoSem.PinnedTables
import GoSem.Claim
import GoSem.ClaimJoined
import GoSem.ClaimMapViews
import Derived.JoinedTies
import Derived.KernelRfl
namespace Go.Proofs.YtggdpmaomhmobaaGreatDoor
/- THE CELL 'sum', in the pinned program and in every row, IS THE sha256 OF THE DUMP (.gsa) THAT YtggdpmaomhmobaaGreatDoorProg.lean LOADS. Nothing in Lean hashes anything: it is a label: what it is worth is what the hold of that sum in a sandbox is worth. -/
noncomputable def Tryz.pinned : Pinned := { name := "ytggdpmaomhmobaagreatdoor", sum := "de9470178765675497544a6bb42c23f70915dc01562af4749db6c2cc8ad3109d", checked := Tryz.checked }
namespace Rows
def none {H : Type} : Left H := { results := [], args := [] }

/- WHAT THE LISTED PACKAGE-LEVEL VARIABLES READ AS WHEN THE CALL BEGINS. Each datum BY PROGRAM (the guide's laid-datum.mjs) off the statement by which the dump's own 'gosem.cut.vars' lays the variable. In a bare row this is a premise. The card (YtggdpmaomhmobaaGreatDoorCards.lean) ties it to the program's text. -/
def laid_math_bits_deBruijn32tab {H : Type} : DataW H := .agg [.lit (.int .u8 0), .lit (.int .u8 1), .lit (.int .u8 28), .lit (.int .u8 2), .lit (.int .u8 29), .lit (.int .u8 14), .lit (.int .u8 24), .lit (.int .u8 3), .lit (.int .u8 30), .lit (.int .u8 22), .lit (.int .u8 20), .lit (.int .u8 15), .lit (.int .u8 25), .lit (.int .u8 17), .lit (.int .u8 4), .lit (.int .u8 8), .lit (.int .u8 31), .lit (.int .u8 27), .lit (.int .u8 13), .lit (.int .u8 23), .lit (.int .u8 21), .lit (.int .u8 19), .lit (.int .u8 16), .lit (.int .u8 7), .lit (.int .u8 26), .lit (.int .u8 12), .lit (.int .u8 18), .lit (.int .u8 6), .lit (.int .u8 11), .lit (.int .u8 5), .lit (.int .u8 10), .lit (.int .u8 9)]
def laid_math_bits_deBruijn64tab {H : Type} : DataW H := .agg [.lit (.int .u8 0), .lit (.int .u8 1), .lit (.int .u8 56), .lit (.int .u8 2), .lit (.int .u8 57), .lit (.int .u8 49), .lit (.int .u8 28), .lit (.int .u8 3), .lit (.int .u8 61), .lit (.int .u8 58), .lit (.int .u8 42), .lit (.int .u8 50), .lit (.int .u8 38), .lit (.int .u8 29), .lit (.int .u8 17), .lit (.int .u8 4), .lit (.int .u8 62), .lit (.int .u8 47), .lit (.int .u8 59), .lit (.int .u8 36), .lit (.int .u8 45), .lit (.int .u8 43), .lit (.int .u8 51), .lit (.int .u8 22), .lit (.int .u8 53), .lit (.int .u8 39), .lit (.int .u8 33), .lit (.int .u8 30), .lit (.int .u8 24), .lit (.int .u8 18), .lit (.int .u8 12), .lit (.int .u8 5), .lit (.int .u8 63), .lit (.int .u8 55), .lit (.int .u8 48), .lit (.int .u8 27), .lit (.int .u8 60), .lit (.int .u8 41), .lit (.int .u8 37), .lit (.int .u8 16), .lit (.int .u8 46), .lit (.int .u8 35), .lit (.int .u8 44), .lit (.int .u8 21), .lit (.int .u8 52), .lit (.int .u8 32), .lit (.int .u8 23), .lit (.int .u8 11), .lit (.int .u8 54), .lit (.int .u8 26), .lit (.int .u8 40), .lit (.int .u8 15), .lit (.int .u8 34), .lit (.int .u8 20), .lit (.int .u8 31), .lit (.int .u8 10), .lit (.int .u8 25), .lit (.int .u8 14), .lit (.int .u8 19), .lit (.int .u8 9), .lit (.int .u8 13), .lit (.int .u8 8), .lit (.int .u8 7), .lit (.int .u8 6)]
def laid_internal_strconv_uint64pow10 {H : Type} : DataW H := .agg [.lit (.int .u64 1), .lit (.int .u64 10), .lit (.int .u64 100), .lit (.int .u64 1000), .lit (.int .u64 10000), .lit (.int .u64 100000), .lit (.int .u64 1000000), .lit (.int .u64 10000000), .lit (.int .u64 100000000), .lit (.int .u64 1000000000), .lit (.int .u64 10000000000), .lit (.int .u64 100000000000), .lit (.int .u64 1000000000000), .lit (.int .u64 10000000000000), .lit (.int .u64 100000000000000), .lit (.int .u64 1000000000000000), .lit (.int .u64 10000000000000000), .lit (.int .u64 100000000000000000), .lit (.int .u64 1000000000000000000), .lit (.int .u64 10000000000000000000)]
def laid_unicode_utf8_acceptRanges {H : Type} : DataW H := .agg [.agg [.lit (.int .u8 128), .lit (.int .u8 191)], .agg [.lit (.int .u8 160), .lit (.int .u8 191)], .agg [.lit (.int .u8 128), .lit (.int .u8 159)], .agg [.lit (.int .u8 144), .lit (.int .u8 191)], .agg [.lit (.int .u8 128), .lit (.int .u8 143)], .agg [.lit (.int .u8 0), .lit (.int .u8 0)], .agg [.lit (.int .u8 0), .lit (.int .u8 0)], .agg [.lit (.int .u8 0), .lit (.int .u8 0)], .agg [.lit (.int .u8 0), .lit (.int .u8 0)], .agg [.lit (.int .u8 0), .lit (.int .u8 0)], .agg [.lit (.int .u8 0), .lit (.int .u8 0)], .agg [.lit (.int .u8 0), .lit (.int .u8 0)], .agg [.lit (.int .u8 0), .lit (.int .u8 0)], .agg [.lit (.int .u8 0), .lit (.int .u8 0)], .agg [.lit (.int .u8 0), .lit (.int .u8 0)], .agg [.lit (.int .u8 0), .lit (.int .u8 0)]]
def laid_strconv_ErrRange {H : Type} : DataW H := .iface "*errors.errorString" (.ptr (.agg [.lit (.string [118, 97, 108, 117, 101, 32, 111, 117, 116, 32, 111, 102, 32, 114, 97, 110, 103, 101])]))
def laid_strconv_ErrSyntax {H : Type} : DataW H := .iface "*errors.errorString" (.ptr (.agg [.lit (.string [105, 110, 118, 97, 108, 105, 100, 32, 115, 121, 110, 116, 97, 120])]))
def laid_bowdler_entity_named {H : Type} : DataW H := .agg [.agg [.lit (.string [97, 109, 112]), .lit (.string [38])], .agg [.lit (.string [108, 116]), .lit (.string [60])], .agg [.lit (.string [103, 116]), .lit (.string [62])], .agg [.lit (.string [113, 117, 111, 116]), .lit (.string [34])], .agg [.lit (.string [97, 112, 111, 115]), .lit (.string [39])], .agg [.lit (.string [110, 98, 115, 112]), .lit (.string [194, 160])], .agg [.lit (.string [99, 111, 112, 121]), .lit (.string [194, 169])], .agg [.lit (.string [114, 101, 103]), .lit (.string [194, 174])], .agg [.lit (.string [100, 101, 103]), .lit (.string [194, 176])], .agg [.lit (.string [115, 101, 99, 116]), .lit (.string [194, 167])], .agg [.lit (.string [112, 97, 114, 97]), .lit (.string [194, 182])], .agg [.lit (.string [109, 105, 100, 100, 111, 116]), .lit (.string [194, 183])], .agg [.lit (.string [101, 97, 99, 117, 116, 101]), .lit (.string [195, 169])], .agg [.lit (.string [97, 117, 109, 108]), .lit (.string [195, 164])], .agg [.lit (.string [111, 117, 109, 108]), .lit (.string [195, 182])], .agg [.lit (.string [117, 117, 109, 108]), .lit (.string [195, 188])], .agg [.lit (.string [115, 122, 108, 105, 103]), .lit (.string [195, 159])], .agg [.lit (.string [110, 100, 97, 115, 104]), .lit (.string [226, 128, 147])], .agg [.lit (.string [109, 100, 97, 115, 104]), .lit (.string [226, 128, 148])], .agg [.lit (.string [104, 101, 108, 108, 105, 112]), .lit (.string [226, 128, 166])], .agg [.lit (.string [101, 117, 114, 111]), .lit (.string [226, 130, 172])], .agg [.lit (.string [108, 97, 114, 114]), .lit (.string [226, 134, 144])], .agg [.lit (.string [114, 97, 114, 114]), .lit (.string [226, 134, 146])]]
def laid_bowdler_token_marks {H : Type} : DataW H := .agg [.lit (.string [33, 91]), .lit (.string [91]), .lit (.string [93])]
/-- One of Go's own tables, pinned by name: the form's constant. -/
def laid_unicode_utf8_first : DataW Unit := Go.Pinned.utf8First

/-- 'bowdlerlaw12.TokenWords': WHATEVER THE INPUT: true; the input reads as it did. -/
def tokenWordsSpec : ChangeSpec := { name := "tokenWords", fn := fun _ => fun
  | [d] => { results := [.lit (.bool true)], args := [d] }
  | _ => none }
def tokenWordsRow : OpenClaim := { program := "ytggdpmaomhmobaagreatdoor", sum := "de9470178765675497544a6bb42c23f70915dc01562af4749db6c2cc8ad3109d", func := "bowdler/bowdlerlaw12.TokenWords", spec := "tokenWords", inPlace := ["internal/bytealg.IndexByteString", "internal/bytealg.IndexString", "internal/bytealg.CountString", "internal/abi.NoEscape", "internal/bytealg.MakeNoZero"], unfollowed := true, recurses := true, named := ["strconv.ErrSyntax", "strconv.ErrRange", "internal/strconv.uint64pow10", "math/bits.deBruijn32tab", "math/bits.deBruijn64tab", "bowdler/entity.named", "internal/bytealg.MaxLen", "unicode/utf8.first", "unicode/utf8.acceptRanges", "bowdler/token.marks"], apart := false, laid := [("math/bits.deBruijn32tab", laid_math_bits_deBruijn32tab), ("math/bits.deBruijn64tab", laid_math_bits_deBruijn64tab), ("internal/strconv.uint64pow10", laid_internal_strconv_uint64pow10), ("unicode/utf8.acceptRanges", laid_unicode_utf8_acceptRanges), ("strconv.ErrRange", laid_strconv_ErrRange), ("strconv.ErrSyntax", laid_strconv_ErrSyntax), ("bowdler/entity.named", laid_bowdler_entity_named), ("bowdler/token.marks", laid_bowdler_token_marks), ("unicode/utf8.first", laid_unicode_utf8_first)] }
def TokenWordsSaid : Prop := tokenWordsRow.holds Tryz.pinned (OpenSpec.ofChange tokenWordsSpec)

/-- ITS FALSE NEIGHBOUR: 'it returns false'. Refute it at one input. -/
def tokenWordsWrong : ChangeSpec := { name := "tokenWords", fn := fun _ => fun
  | [d] => { results := [.lit (.bool false)], args := [d] }
  | _ => none }
def TokenWordsWrongFalsely : Prop := tokenWordsRow.holds Tryz.pinned (OpenSpec.ofChange tokenWordsWrong)

/-- 'bowdlerlaw12.TokenCodes': WHATEVER THE INPUT: true; the input reads as it did. -/
def tokenCodesSpec : ChangeSpec := { name := "tokenCodes", fn := fun _ => fun
  | [d1, d2] => { results := [.lit (.bool true)], args := [d1, d2] }
  | _ => none }
def tokenCodesRow : OpenClaim := { program := "ytggdpmaomhmobaagreatdoor", sum := "de9470178765675497544a6bb42c23f70915dc01562af4749db6c2cc8ad3109d", func := "bowdler/bowdlerlaw12.TokenCodes", spec := "tokenCodes", inPlace := ["internal/bytealg.IndexByteString", "internal/bytealg.IndexString", "internal/bytealg.CountString", "internal/abi.NoEscape", "internal/bytealg.MakeNoZero"], unfollowed := true, recurses := true, named := ["strconv.ErrSyntax", "strconv.ErrRange", "internal/strconv.uint64pow10", "math/bits.deBruijn32tab", "math/bits.deBruijn64tab", "bowdler/entity.named", "internal/bytealg.MaxLen", "unicode/utf8.first", "unicode/utf8.acceptRanges", "bowdler/token.marks"], apart := false, laid := [("math/bits.deBruijn32tab", laid_math_bits_deBruijn32tab), ("math/bits.deBruijn64tab", laid_math_bits_deBruijn64tab), ("internal/strconv.uint64pow10", laid_internal_strconv_uint64pow10), ("unicode/utf8.acceptRanges", laid_unicode_utf8_acceptRanges), ("strconv.ErrRange", laid_strconv_ErrRange), ("strconv.ErrSyntax", laid_strconv_ErrSyntax), ("bowdler/entity.named", laid_bowdler_entity_named), ("bowdler/token.marks", laid_bowdler_token_marks), ("unicode/utf8.first", laid_unicode_utf8_first)] }
def TokenCodesSaid : Prop := tokenCodesRow.holds Tryz.pinned (OpenSpec.ofChange tokenCodesSpec)

/-- ITS FALSE NEIGHBOUR: 'it returns false'. Refute it at one input. -/
def tokenCodesWrong : ChangeSpec := { name := "tokenCodes", fn := fun _ => fun
  | [d1, d2] => { results := [.lit (.bool false)], args := [d1, d2] }
  | _ => none }
def TokenCodesWrongFalsely : Prop := tokenCodesRow.holds Tryz.pinned (OpenSpec.ofChange tokenCodesWrong)

/-- 'bowdlerlaw12.TokenSigns': WHATEVER THE INPUT: true; the input reads as it did. -/
def tokenSignsSpec : ChangeSpec := { name := "tokenSigns", fn := fun _ => fun
  | [d] => { results := [.lit (.bool true)], args := [d] }
  | _ => none }
def tokenSignsRow : OpenClaim := { program := "ytggdpmaomhmobaagreatdoor", sum := "de9470178765675497544a6bb42c23f70915dc01562af4749db6c2cc8ad3109d", func := "bowdler/bowdlerlaw12.TokenSigns", spec := "tokenSigns", inPlace := ["internal/bytealg.IndexByteString", "internal/bytealg.IndexString", "internal/bytealg.CountString", "internal/abi.NoEscape", "internal/bytealg.MakeNoZero"], unfollowed := true, recurses := true, named := ["strconv.ErrSyntax", "strconv.ErrRange", "internal/strconv.uint64pow10", "math/bits.deBruijn32tab", "math/bits.deBruijn64tab", "bowdler/entity.named", "internal/bytealg.MaxLen", "unicode/utf8.first", "unicode/utf8.acceptRanges", "bowdler/token.marks"], apart := false, laid := [("math/bits.deBruijn32tab", laid_math_bits_deBruijn32tab), ("math/bits.deBruijn64tab", laid_math_bits_deBruijn64tab), ("internal/strconv.uint64pow10", laid_internal_strconv_uint64pow10), ("unicode/utf8.acceptRanges", laid_unicode_utf8_acceptRanges), ("strconv.ErrRange", laid_strconv_ErrRange), ("strconv.ErrSyntax", laid_strconv_ErrSyntax), ("bowdler/entity.named", laid_bowdler_entity_named), ("bowdler/token.marks", laid_bowdler_token_marks), ("unicode/utf8.first", laid_unicode_utf8_first)] }
def TokenSignsSaid : Prop := tokenSignsRow.holds Tryz.pinned (OpenSpec.ofChange tokenSignsSpec)

/-- ITS FALSE NEIGHBOUR: 'it returns false'. Refute it at one input. -/
def tokenSignsWrong : ChangeSpec := { name := "tokenSigns", fn := fun _ => fun
  | [d] => { results := [.lit (.bool false)], args := [d] }
  | _ => none }
def TokenSignsWrongFalsely : Prop := tokenSignsRow.holds Tryz.pinned (OpenSpec.ofChange tokenSignsWrong)

/-- 'bowdlerlaw12.TokenRuns': WHATEVER THE INPUT: true; the input reads as it did. -/
def tokenRunsSpec : ChangeSpec := { name := "tokenRuns", fn := fun _ => fun
  | [d1, d2, d3] => { results := [.lit (.bool true)], args := [d1, d2, d3] }
  | _ => none }
def tokenRunsRow : OpenClaim := { program := "ytggdpmaomhmobaagreatdoor", sum := "de9470178765675497544a6bb42c23f70915dc01562af4749db6c2cc8ad3109d", func := "bowdler/bowdlerlaw12.TokenRuns", spec := "tokenRuns", inPlace := ["internal/bytealg.IndexByteString", "internal/bytealg.IndexString", "internal/bytealg.CountString", "internal/abi.NoEscape", "internal/bytealg.MakeNoZero"], unfollowed := true, recurses := true, named := ["strconv.ErrSyntax", "strconv.ErrRange", "internal/strconv.uint64pow10", "math/bits.deBruijn32tab", "math/bits.deBruijn64tab", "bowdler/entity.named", "internal/bytealg.MaxLen", "unicode/utf8.first", "unicode/utf8.acceptRanges", "bowdler/token.marks"], apart := false, laid := [("math/bits.deBruijn32tab", laid_math_bits_deBruijn32tab), ("math/bits.deBruijn64tab", laid_math_bits_deBruijn64tab), ("internal/strconv.uint64pow10", laid_internal_strconv_uint64pow10), ("unicode/utf8.acceptRanges", laid_unicode_utf8_acceptRanges), ("strconv.ErrRange", laid_strconv_ErrRange), ("strconv.ErrSyntax", laid_strconv_ErrSyntax), ("bowdler/entity.named", laid_bowdler_entity_named), ("bowdler/token.marks", laid_bowdler_token_marks), ("unicode/utf8.first", laid_unicode_utf8_first)] }
def TokenRunsSaid : Prop := tokenRunsRow.holds Tryz.pinned (OpenSpec.ofChange tokenRunsSpec)

/-- ITS FALSE NEIGHBOUR: 'it returns false'. Refute it at one input. -/
def tokenRunsWrong : ChangeSpec := { name := "tokenRuns", fn := fun _ => fun
  | [d1, d2, d3] => { results := [.lit (.bool false)], args := [d1, d2, d3] }
  | _ => none }
def TokenRunsWrongFalsely : Prop := tokenRunsRow.holds Tryz.pinned (OpenSpec.ofChange tokenRunsWrong)

/-- 'bowdlerlaw12.TokenBreaks': WHATEVER THE INPUT: true; the input reads as it did. -/
def tokenBreaksSpec : ChangeSpec := { name := "tokenBreaks", fn := fun _ => fun
  | [d1, d2, d3] => { results := [.lit (.bool true)], args := [d1, d2, d3] }
  | _ => none }
def tokenBreaksRow : OpenClaim := { program := "ytggdpmaomhmobaagreatdoor", sum := "de9470178765675497544a6bb42c23f70915dc01562af4749db6c2cc8ad3109d", func := "bowdler/bowdlerlaw12.TokenBreaks", spec := "tokenBreaks", inPlace := ["internal/bytealg.IndexByteString", "internal/bytealg.IndexString", "internal/bytealg.CountString", "internal/abi.NoEscape", "internal/bytealg.MakeNoZero"], unfollowed := true, recurses := true, named := ["strconv.ErrSyntax", "strconv.ErrRange", "internal/strconv.uint64pow10", "math/bits.deBruijn32tab", "math/bits.deBruijn64tab", "bowdler/entity.named", "internal/bytealg.MaxLen", "unicode/utf8.first", "unicode/utf8.acceptRanges", "bowdler/token.marks"], apart := false, laid := [("math/bits.deBruijn32tab", laid_math_bits_deBruijn32tab), ("math/bits.deBruijn64tab", laid_math_bits_deBruijn64tab), ("internal/strconv.uint64pow10", laid_internal_strconv_uint64pow10), ("unicode/utf8.acceptRanges", laid_unicode_utf8_acceptRanges), ("strconv.ErrRange", laid_strconv_ErrRange), ("strconv.ErrSyntax", laid_strconv_ErrSyntax), ("bowdler/entity.named", laid_bowdler_entity_named), ("bowdler/token.marks", laid_bowdler_token_marks), ("unicode/utf8.first", laid_unicode_utf8_first)] }
def TokenBreaksSaid : Prop := tokenBreaksRow.holds Tryz.pinned (OpenSpec.ofChange tokenBreaksSpec)

/-- ITS FALSE NEIGHBOUR: 'it returns false'. Refute it at one input. -/
def tokenBreaksWrong : ChangeSpec := { name := "tokenBreaks", fn := fun _ => fun
  | [d1, d2, d3] => { results := [.lit (.bool false)], args := [d1, d2, d3] }
  | _ => none }
def TokenBreaksWrongFalsely : Prop := tokenBreaksRow.holds Tryz.pinned (OpenSpec.ofChange tokenBreaksWrong)

/-- 'bowdlerlaw12.TokenAutos': WHATEVER THE INPUT: true; the input reads as it did. -/
def tokenAutosSpec : ChangeSpec := { name := "tokenAutos", fn := fun _ => fun
  | [d1, d2, d3] => { results := [.lit (.bool true)], args := [d1, d2, d3] }
  | _ => none }
def tokenAutosRow : OpenClaim := { program := "ytggdpmaomhmobaagreatdoor", sum := "de9470178765675497544a6bb42c23f70915dc01562af4749db6c2cc8ad3109d", func := "bowdler/bowdlerlaw12.TokenAutos", spec := "tokenAutos", inPlace := ["internal/bytealg.IndexByteString", "internal/bytealg.IndexString", "internal/bytealg.CountString", "internal/abi.NoEscape", "internal/bytealg.MakeNoZero"], unfollowed := true, recurses := true, named := ["strconv.ErrSyntax", "strconv.ErrRange", "internal/strconv.uint64pow10", "math/bits.deBruijn32tab", "math/bits.deBruijn64tab", "bowdler/entity.named", "internal/bytealg.MaxLen", "unicode/utf8.first", "unicode/utf8.acceptRanges", "bowdler/token.marks"], apart := false, laid := [("math/bits.deBruijn32tab", laid_math_bits_deBruijn32tab), ("math/bits.deBruijn64tab", laid_math_bits_deBruijn64tab), ("internal/strconv.uint64pow10", laid_internal_strconv_uint64pow10), ("unicode/utf8.acceptRanges", laid_unicode_utf8_acceptRanges), ("strconv.ErrRange", laid_strconv_ErrRange), ("strconv.ErrSyntax", laid_strconv_ErrSyntax), ("bowdler/entity.named", laid_bowdler_entity_named), ("bowdler/token.marks", laid_bowdler_token_marks), ("unicode/utf8.first", laid_unicode_utf8_first)] }
def TokenAutosSaid : Prop := tokenAutosRow.holds Tryz.pinned (OpenSpec.ofChange tokenAutosSpec)

/-- ITS FALSE NEIGHBOUR: 'it returns false'. Refute it at one input. -/
def tokenAutosWrong : ChangeSpec := { name := "tokenAutos", fn := fun _ => fun
  | [d1, d2, d3] => { results := [.lit (.bool false)], args := [d1, d2, d3] }
  | _ => none }
def TokenAutosWrongFalsely : Prop := tokenAutosRow.holds Tryz.pinned (OpenSpec.ofChange tokenAutosWrong)

/-- 'bowdlerlaw12.TokenTags': WHATEVER THE INPUT: true; the input reads as it did. -/
def tokenTagsSpec : ChangeSpec := { name := "tokenTags", fn := fun _ => fun
  | [d1, d2, d3] => { results := [.lit (.bool true)], args := [d1, d2, d3] }
  | _ => none }
def tokenTagsRow : OpenClaim := { program := "ytggdpmaomhmobaagreatdoor", sum := "de9470178765675497544a6bb42c23f70915dc01562af4749db6c2cc8ad3109d", func := "bowdler/bowdlerlaw12.TokenTags", spec := "tokenTags", inPlace := ["internal/bytealg.IndexByteString", "internal/bytealg.IndexString", "internal/bytealg.CountString", "internal/abi.NoEscape", "internal/bytealg.MakeNoZero"], unfollowed := true, recurses := true, named := ["strconv.ErrSyntax", "strconv.ErrRange", "internal/strconv.uint64pow10", "math/bits.deBruijn32tab", "math/bits.deBruijn64tab", "bowdler/entity.named", "internal/bytealg.MaxLen", "unicode/utf8.first", "unicode/utf8.acceptRanges", "bowdler/token.marks"], apart := false, laid := [("math/bits.deBruijn32tab", laid_math_bits_deBruijn32tab), ("math/bits.deBruijn64tab", laid_math_bits_deBruijn64tab), ("internal/strconv.uint64pow10", laid_internal_strconv_uint64pow10), ("unicode/utf8.acceptRanges", laid_unicode_utf8_acceptRanges), ("strconv.ErrRange", laid_strconv_ErrRange), ("strconv.ErrSyntax", laid_strconv_ErrSyntax), ("bowdler/entity.named", laid_bowdler_entity_named), ("bowdler/token.marks", laid_bowdler_token_marks), ("unicode/utf8.first", laid_unicode_utf8_first)] }
def TokenTagsSaid : Prop := tokenTagsRow.holds Tryz.pinned (OpenSpec.ofChange tokenTagsSpec)

/-- ITS FALSE NEIGHBOUR: 'it returns false'. Refute it at one input. -/
def tokenTagsWrong : ChangeSpec := { name := "tokenTags", fn := fun _ => fun
  | [d1, d2, d3] => { results := [.lit (.bool false)], args := [d1, d2, d3] }
  | _ => none }
def TokenTagsWrongFalsely : Prop := tokenTagsRow.holds Tryz.pinned (OpenSpec.ofChange tokenTagsWrong)

/-- 'bowdlerlaw12.TokenEntities': WHATEVER THE INPUT: true; the input reads as it did. -/
def tokenEntitiesSpec : ChangeSpec := { name := "tokenEntities", fn := fun _ => fun
  | [d1, d2] => { results := [.lit (.bool true)], args := [d1, d2] }
  | _ => none }
def tokenEntitiesRow : OpenClaim := { program := "ytggdpmaomhmobaagreatdoor", sum := "de9470178765675497544a6bb42c23f70915dc01562af4749db6c2cc8ad3109d", func := "bowdler/bowdlerlaw12.TokenEntities", spec := "tokenEntities", inPlace := ["internal/bytealg.IndexByteString", "internal/bytealg.IndexString", "internal/bytealg.CountString", "internal/abi.NoEscape", "internal/bytealg.MakeNoZero"], unfollowed := true, recurses := true, named := ["strconv.ErrSyntax", "strconv.ErrRange", "internal/strconv.uint64pow10", "math/bits.deBruijn32tab", "math/bits.deBruijn64tab", "bowdler/entity.named", "internal/bytealg.MaxLen", "unicode/utf8.first", "unicode/utf8.acceptRanges", "bowdler/token.marks"], apart := false, laid := [("math/bits.deBruijn32tab", laid_math_bits_deBruijn32tab), ("math/bits.deBruijn64tab", laid_math_bits_deBruijn64tab), ("internal/strconv.uint64pow10", laid_internal_strconv_uint64pow10), ("unicode/utf8.acceptRanges", laid_unicode_utf8_acceptRanges), ("strconv.ErrRange", laid_strconv_ErrRange), ("strconv.ErrSyntax", laid_strconv_ErrSyntax), ("bowdler/entity.named", laid_bowdler_entity_named), ("bowdler/token.marks", laid_bowdler_token_marks), ("unicode/utf8.first", laid_unicode_utf8_first)] }
def TokenEntitiesSaid : Prop := tokenEntitiesRow.holds Tryz.pinned (OpenSpec.ofChange tokenEntitiesSpec)

/-- ITS FALSE NEIGHBOUR: 'it returns false'. Refute it at one input. -/
def tokenEntitiesWrong : ChangeSpec := { name := "tokenEntities", fn := fun _ => fun
  | [d1, d2] => { results := [.lit (.bool false)], args := [d1, d2] }
  | _ => none }
def TokenEntitiesWrongFalsely : Prop := tokenEntitiesRow.holds Tryz.pinned (OpenSpec.ofChange tokenEntitiesWrong)

/- THE SECOND FORM. 'bulk': how many values and letters a reading holds, each counted each time it is reached (what is shared counts as often as it is met; a slice's spare places count too). A statement '..UptoSaid' is the law's where the arguments, and the package variables that the reading takes, are together of bulk at most 1048576: NARROWER than '..Said'. Prove '..Said' where nothing that the law and all that it calls make is longer than what came in: it says more and counts as full. Else prove '..UptoSaid'. A law counts once. -/
mutual
def uptoBulk {H : Type} : DataW H → Nat
  | .lit (.string bytes) => bytes.length + 1
  | .lit _ => 1
  | .nil => 1
  | .ptr d => uptoBulk d + 1
  | .slice elems spare => uptoBulkAll elems + uptoBulkAll spare + 1
  | .agg parts => uptoBulkAll parts + 1
  | .iface _ d => uptoBulk d + 1
  | .map entries => uptoBulkEntries entries + 1
  | .held _ => 1
def uptoBulkAll {H : Type} : List (DataW H) → Nat
  | [] => 0
  | d :: r => uptoBulk d + uptoBulkAll r
def uptoBulkEntries {H : Type} : List (Lit × DataW H) → Nat
  | [] => 0
  | x :: r => uptoBulkEntry x + uptoBulkEntries r
def uptoBulkEntry {H : Type} : Lit × DataW H → Nat
  | (.string bytes, d) => bytes.length + uptoBulk d + 1
  | (_, d) => uptoBulk d + 1
 end
def uptoSmall : (H : Type) → List (DataW H) → Bool := fun _ ds => decide (uptoBulkAll ds ≤ 1048576)
def OpenSpec.upto (s : _root_.Go.ChangeSpec) : _root_.Go.OpenSpec := { _root_.Go.OpenSpec.ofChange s with cond := some uptoSmall }

/-- 'bowdlerlaw12.TokenWords', WHERE WHAT IT READS IS OF BULK AT MOST 1048576: true; the input reads as it did. -/
def tokenWordsUptoRow : OpenClaim := { program := "ytggdpmaomhmobaagreatdoor", sum := "de9470178765675497544a6bb42c23f70915dc01562af4749db6c2cc8ad3109d", func := "bowdler/bowdlerlaw12.TokenWords", spec := "tokenWords", inPlace := ["internal/bytealg.IndexByteString", "internal/bytealg.IndexString", "internal/bytealg.CountString", "internal/abi.NoEscape", "internal/bytealg.MakeNoZero"], unfollowed := true, recurses := true, named := ["strconv.ErrSyntax", "strconv.ErrRange", "internal/strconv.uint64pow10", "math/bits.deBruijn32tab", "math/bits.deBruijn64tab", "bowdler/entity.named", "internal/bytealg.MaxLen", "unicode/utf8.first", "unicode/utf8.acceptRanges", "bowdler/token.marks"], apart := false, laid := [("math/bits.deBruijn32tab", laid_math_bits_deBruijn32tab), ("math/bits.deBruijn64tab", laid_math_bits_deBruijn64tab), ("internal/strconv.uint64pow10", laid_internal_strconv_uint64pow10), ("unicode/utf8.acceptRanges", laid_unicode_utf8_acceptRanges), ("strconv.ErrRange", laid_strconv_ErrRange), ("strconv.ErrSyntax", laid_strconv_ErrSyntax), ("bowdler/entity.named", laid_bowdler_entity_named), ("bowdler/token.marks", laid_bowdler_token_marks), ("unicode/utf8.first", laid_unicode_utf8_first)], narrowed := true }
def TokenWordsUptoSaid : Prop := tokenWordsUptoRow.holds Tryz.pinned (OpenSpec.upto tokenWordsSpec)

/-- 'bowdlerlaw12.TokenCodes', WHERE WHAT IT READS IS OF BULK AT MOST 1048576: true; the input reads as it did. -/
def tokenCodesUptoRow : OpenClaim := { program := "ytggdpmaomhmobaagreatdoor", sum := "de9470178765675497544a6bb42c23f70915dc01562af4749db6c2cc8ad3109d", func := "bowdler/bowdlerlaw12.TokenCodes", spec := "tokenCodes", inPlace := ["internal/bytealg.IndexByteString", "internal/bytealg.IndexString", "internal/bytealg.CountString", "internal/abi.NoEscape", "internal/bytealg.MakeNoZero"], unfollowed := true, recurses := true, named := ["strconv.ErrSyntax", "strconv.ErrRange", "internal/strconv.uint64pow10", "math/bits.deBruijn32tab", "math/bits.deBruijn64tab", "bowdler/entity.named", "internal/bytealg.MaxLen", "unicode/utf8.first", "unicode/utf8.acceptRanges", "bowdler/token.marks"], apart := false, laid := [("math/bits.deBruijn32tab", laid_math_bits_deBruijn32tab), ("math/bits.deBruijn64tab", laid_math_bits_deBruijn64tab), ("internal/strconv.uint64pow10", laid_internal_strconv_uint64pow10), ("unicode/utf8.acceptRanges", laid_unicode_utf8_acceptRanges), ("strconv.ErrRange", laid_strconv_ErrRange), ("strconv.ErrSyntax", laid_strconv_ErrSyntax), ("bowdler/entity.named", laid_bowdler_entity_named), ("bowdler/token.marks", laid_bowdler_token_marks), ("unicode/utf8.first", laid_unicode_utf8_first)], narrowed := true }
def TokenCodesUptoSaid : Prop := tokenCodesUptoRow.holds Tryz.pinned (OpenSpec.upto tokenCodesSpec)

/-- 'bowdlerlaw12.TokenSigns', WHERE WHAT IT READS IS OF BULK AT MOST 1048576: true; the input reads as it did. -/
def tokenSignsUptoRow : OpenClaim := { program := "ytggdpmaomhmobaagreatdoor", sum := "de9470178765675497544a6bb42c23f70915dc01562af4749db6c2cc8ad3109d", func := "bowdler/bowdlerlaw12.TokenSigns", spec := "tokenSigns", inPlace := ["internal/bytealg.IndexByteString", "internal/bytealg.IndexString", "internal/bytealg.CountString", "internal/abi.NoEscape", "internal/bytealg.MakeNoZero"], unfollowed := true, recurses := true, named := ["strconv.ErrSyntax", "strconv.ErrRange", "internal/strconv.uint64pow10", "math/bits.deBruijn32tab", "math/bits.deBruijn64tab", "bowdler/entity.named", "internal/bytealg.MaxLen", "unicode/utf8.first", "unicode/utf8.acceptRanges", "bowdler/token.marks"], apart := false, laid := [("math/bits.deBruijn32tab", laid_math_bits_deBruijn32tab), ("math/bits.deBruijn64tab", laid_math_bits_deBruijn64tab), ("internal/strconv.uint64pow10", laid_internal_strconv_uint64pow10), ("unicode/utf8.acceptRanges", laid_unicode_utf8_acceptRanges), ("strconv.ErrRange", laid_strconv_ErrRange), ("strconv.ErrSyntax", laid_strconv_ErrSyntax), ("bowdler/entity.named", laid_bowdler_entity_named), ("bowdler/token.marks", laid_bowdler_token_marks), ("unicode/utf8.first", laid_unicode_utf8_first)], narrowed := true }
def TokenSignsUptoSaid : Prop := tokenSignsUptoRow.holds Tryz.pinned (OpenSpec.upto tokenSignsSpec)

/-- 'bowdlerlaw12.TokenRuns', WHERE WHAT IT READS IS OF BULK AT MOST 1048576: true; the input reads as it did. -/
def tokenRunsUptoRow : OpenClaim := { program := "ytggdpmaomhmobaagreatdoor", sum := "de9470178765675497544a6bb42c23f70915dc01562af4749db6c2cc8ad3109d", func := "bowdler/bowdlerlaw12.TokenRuns", spec := "tokenRuns", inPlace := ["internal/bytealg.IndexByteString", "internal/bytealg.IndexString", "internal/bytealg.CountString", "internal/abi.NoEscape", "internal/bytealg.MakeNoZero"], unfollowed := true, recurses := true, named := ["strconv.ErrSyntax", "strconv.ErrRange", "internal/strconv.uint64pow10", "math/bits.deBruijn32tab", "math/bits.deBruijn64tab", "bowdler/entity.named", "internal/bytealg.MaxLen", "unicode/utf8.first", "unicode/utf8.acceptRanges", "bowdler/token.marks"], apart := false, laid := [("math/bits.deBruijn32tab", laid_math_bits_deBruijn32tab), ("math/bits.deBruijn64tab", laid_math_bits_deBruijn64tab), ("internal/strconv.uint64pow10", laid_internal_strconv_uint64pow10), ("unicode/utf8.acceptRanges", laid_unicode_utf8_acceptRanges), ("strconv.ErrRange", laid_strconv_ErrRange), ("strconv.ErrSyntax", laid_strconv_ErrSyntax), ("bowdler/entity.named", laid_bowdler_entity_named), ("bowdler/token.marks", laid_bowdler_token_marks), ("unicode/utf8.first", laid_unicode_utf8_first)], narrowed := true }
def TokenRunsUptoSaid : Prop := tokenRunsUptoRow.holds Tryz.pinned (OpenSpec.upto tokenRunsSpec)

/-- 'bowdlerlaw12.TokenBreaks', WHERE WHAT IT READS IS OF BULK AT MOST 1048576: true; the input reads as it did. -/
def tokenBreaksUptoRow : OpenClaim := { program := "ytggdpmaomhmobaagreatdoor", sum := "de9470178765675497544a6bb42c23f70915dc01562af4749db6c2cc8ad3109d", func := "bowdler/bowdlerlaw12.TokenBreaks", spec := "tokenBreaks", inPlace := ["internal/bytealg.IndexByteString", "internal/bytealg.IndexString", "internal/bytealg.CountString", "internal/abi.NoEscape", "internal/bytealg.MakeNoZero"], unfollowed := true, recurses := true, named := ["strconv.ErrSyntax", "strconv.ErrRange", "internal/strconv.uint64pow10", "math/bits.deBruijn32tab", "math/bits.deBruijn64tab", "bowdler/entity.named", "internal/bytealg.MaxLen", "unicode/utf8.first", "unicode/utf8.acceptRanges", "bowdler/token.marks"], apart := false, laid := [("math/bits.deBruijn32tab", laid_math_bits_deBruijn32tab), ("math/bits.deBruijn64tab", laid_math_bits_deBruijn64tab), ("internal/strconv.uint64pow10", laid_internal_strconv_uint64pow10), ("unicode/utf8.acceptRanges", laid_unicode_utf8_acceptRanges), ("strconv.ErrRange", laid_strconv_ErrRange), ("strconv.ErrSyntax", laid_strconv_ErrSyntax), ("bowdler/entity.named", laid_bowdler_entity_named), ("bowdler/token.marks", laid_bowdler_token_marks), ("unicode/utf8.first", laid_unicode_utf8_first)], narrowed := true }
def TokenBreaksUptoSaid : Prop := tokenBreaksUptoRow.holds Tryz.pinned (OpenSpec.upto tokenBreaksSpec)

/-- 'bowdlerlaw12.TokenAutos', WHERE WHAT IT READS IS OF BULK AT MOST 1048576: true; the input reads as it did. -/
def tokenAutosUptoRow : OpenClaim := { program := "ytggdpmaomhmobaagreatdoor", sum := "de9470178765675497544a6bb42c23f70915dc01562af4749db6c2cc8ad3109d", func := "bowdler/bowdlerlaw12.TokenAutos", spec := "tokenAutos", inPlace := ["internal/bytealg.IndexByteString", "internal/bytealg.IndexString", "internal/bytealg.CountString", "internal/abi.NoEscape", "internal/bytealg.MakeNoZero"], unfollowed := true, recurses := true, named := ["strconv.ErrSyntax", "strconv.ErrRange", "internal/strconv.uint64pow10", "math/bits.deBruijn32tab", "math/bits.deBruijn64tab", "bowdler/entity.named", "internal/bytealg.MaxLen", "unicode/utf8.first", "unicode/utf8.acceptRanges", "bowdler/token.marks"], apart := false, laid := [("math/bits.deBruijn32tab", laid_math_bits_deBruijn32tab), ("math/bits.deBruijn64tab", laid_math_bits_deBruijn64tab), ("internal/strconv.uint64pow10", laid_internal_strconv_uint64pow10), ("unicode/utf8.acceptRanges", laid_unicode_utf8_acceptRanges), ("strconv.ErrRange", laid_strconv_ErrRange), ("strconv.ErrSyntax", laid_strconv_ErrSyntax), ("bowdler/entity.named", laid_bowdler_entity_named), ("bowdler/token.marks", laid_bowdler_token_marks), ("unicode/utf8.first", laid_unicode_utf8_first)], narrowed := true }
def TokenAutosUptoSaid : Prop := tokenAutosUptoRow.holds Tryz.pinned (OpenSpec.upto tokenAutosSpec)

/-- 'bowdlerlaw12.TokenTags', WHERE WHAT IT READS IS OF BULK AT MOST 1048576: true; the input reads as it did. -/
def tokenTagsUptoRow : OpenClaim := { program := "ytggdpmaomhmobaagreatdoor", sum := "de9470178765675497544a6bb42c23f70915dc01562af4749db6c2cc8ad3109d", func := "bowdler/bowdlerlaw12.TokenTags", spec := "tokenTags", inPlace := ["internal/bytealg.IndexByteString", "internal/bytealg.IndexString", "internal/bytealg.CountString", "internal/abi.NoEscape", "internal/bytealg.MakeNoZero"], unfollowed := true, recurses := true, named := ["strconv.ErrSyntax", "strconv.ErrRange", "internal/strconv.uint64pow10", "math/bits.deBruijn32tab", "math/bits.deBruijn64tab", "bowdler/entity.named", "internal/bytealg.MaxLen", "unicode/utf8.first", "unicode/utf8.acceptRanges", "bowdler/token.marks"], apart := false, laid := [("math/bits.deBruijn32tab", laid_math_bits_deBruijn32tab), ("math/bits.deBruijn64tab", laid_math_bits_deBruijn64tab), ("internal/strconv.uint64pow10", laid_internal_strconv_uint64pow10), ("unicode/utf8.acceptRanges", laid_unicode_utf8_acceptRanges), ("strconv.ErrRange", laid_strconv_ErrRange), ("strconv.ErrSyntax", laid_strconv_ErrSyntax), ("bowdler/entity.named", laid_bowdler_entity_named), ("bowdler/token.marks", laid_bowdler_token_marks), ("unicode/utf8.first", laid_unicode_utf8_first)], narrowed := true }
def TokenTagsUptoSaid : Prop := tokenTagsUptoRow.holds Tryz.pinned (OpenSpec.upto tokenTagsSpec)

/-- 'bowdlerlaw12.TokenEntities', WHERE WHAT IT READS IS OF BULK AT MOST 1048576: true; the input reads as it did. -/
def tokenEntitiesUptoRow : OpenClaim := { program := "ytggdpmaomhmobaagreatdoor", sum := "de9470178765675497544a6bb42c23f70915dc01562af4749db6c2cc8ad3109d", func := "bowdler/bowdlerlaw12.TokenEntities", spec := "tokenEntities", inPlace := ["internal/bytealg.IndexByteString", "internal/bytealg.IndexString", "internal/bytealg.CountString", "internal/abi.NoEscape", "internal/bytealg.MakeNoZero"], unfollowed := true, recurses := true, named := ["strconv.ErrSyntax", "strconv.ErrRange", "internal/strconv.uint64pow10", "math/bits.deBruijn32tab", "math/bits.deBruijn64tab", "bowdler/entity.named", "internal/bytealg.MaxLen", "unicode/utf8.first", "unicode/utf8.acceptRanges", "bowdler/token.marks"], apart := false, laid := [("math/bits.deBruijn32tab", laid_math_bits_deBruijn32tab), ("math/bits.deBruijn64tab", laid_math_bits_deBruijn64tab), ("internal/strconv.uint64pow10", laid_internal_strconv_uint64pow10), ("unicode/utf8.acceptRanges", laid_unicode_utf8_acceptRanges), ("strconv.ErrRange", laid_strconv_ErrRange), ("strconv.ErrSyntax", laid_strconv_ErrSyntax), ("bowdler/entity.named", laid_bowdler_entity_named), ("bowdler/token.marks", laid_bowdler_token_marks), ("unicode/utf8.first", laid_unicode_utf8_first)], narrowed := true }
def TokenEntitiesUptoSaid : Prop := tokenEntitiesUptoRow.holds Tryz.pinned (OpenSpec.upto tokenEntitiesSpec)

end Rows
end Go.Proofs.YtggdpmaomhmobaaGreatDoor
