/-
  NARROWER THAN 'FOR EVERY INPUT', by the rows' own cells (each row's printed sentence says how): InterpBegins: loops, laid · InterpPlays: loops, laid · InterpDoes: loops, laid · InterpNone: laid · InterpResumes: loops, laid · InterpAsks: loops, laid · InterpFuel: loops, laid · InterpLines: laid · InterpNames: laid.
  DERIVED. THE GIVEN ROWS OF THIS SEAT. 9 by the template 'for every input the law returns true; each argument reads behind the call as it read before'; 0 by the template 'total and deterministic' (their statements: YtnobmgkdieaclaaGreatDoorTotals.lean).
  GIVEN WITH THE SEED: the statements are not yours to turn. If you find one false, say at which input.
  Laid BY PROGRAM, IN A SANDBOX (cutbox-rows.mjs): the forced cells as the released guide's own fill.sh prints them over the translation 243831986188816e… (all of the seat's roots in one cut). By AI agents, Wed Nov 11 2026. No macro, syntax, notation, axiom, sorry.
-/
import Derived.Test.YtnobmgkdieaclaaGreatDoorChecked
import GoSem.PinnedTables
import GoSem.Claim
import GoSem.ClaimJoined
import GoSem.ClaimMapViews
import Derived.JoinedTies
import Derived.KernelRfl
namespace Go.Proofs.YtnobmgkdieaclaaGreatDoor
/- THE CELL 'sum', in the pinned program and in every row, IS THE sha256 OF THE DUMP (.gsa) THAT YtnobmgkdieaclaaGreatDoorProg.lean LOADS. Nothing in Lean hashes anything: it is a label: what it is worth is what the hold of that sum in a sandbox is worth. -/
noncomputable def Tryz.pinned : Pinned := { name := "ytnobmgkdieaclaagreatdoor", sum := "243831986188816e9ce56b08ac199e45980ba6cf6d0e244518bde58ace0f1d69", checked := Tryz.checked }
namespace Rows
def none {H : Type} : Left H := { results := [], args := [] }

/- WHAT THE LISTED PACKAGE-LEVEL VARIABLES READ AS WHEN THE CALL BEGINS. Each datum BY PROGRAM (the guide's laid-datum.mjs) off the statement by which the dump's own 'gosem.cut.vars' lays the variable. In a bare row this is a premise. The card (YtnobmgkdieaclaaGreatDoorCards.lean) ties it to the program's text. -/
def laid_math_bits_deBruijn32tab {H : Type} : DataW H := .agg [.lit (.int .u8 0), .lit (.int .u8 1), .lit (.int .u8 28), .lit (.int .u8 2), .lit (.int .u8 29), .lit (.int .u8 14), .lit (.int .u8 24), .lit (.int .u8 3), .lit (.int .u8 30), .lit (.int .u8 22), .lit (.int .u8 20), .lit (.int .u8 15), .lit (.int .u8 25), .lit (.int .u8 17), .lit (.int .u8 4), .lit (.int .u8 8), .lit (.int .u8 31), .lit (.int .u8 27), .lit (.int .u8 13), .lit (.int .u8 23), .lit (.int .u8 21), .lit (.int .u8 19), .lit (.int .u8 16), .lit (.int .u8 7), .lit (.int .u8 26), .lit (.int .u8 12), .lit (.int .u8 18), .lit (.int .u8 6), .lit (.int .u8 11), .lit (.int .u8 5), .lit (.int .u8 10), .lit (.int .u8 9)]
def laid_math_bits_deBruijn64tab {H : Type} : DataW H := .agg [.lit (.int .u8 0), .lit (.int .u8 1), .lit (.int .u8 56), .lit (.int .u8 2), .lit (.int .u8 57), .lit (.int .u8 49), .lit (.int .u8 28), .lit (.int .u8 3), .lit (.int .u8 61), .lit (.int .u8 58), .lit (.int .u8 42), .lit (.int .u8 50), .lit (.int .u8 38), .lit (.int .u8 29), .lit (.int .u8 17), .lit (.int .u8 4), .lit (.int .u8 62), .lit (.int .u8 47), .lit (.int .u8 59), .lit (.int .u8 36), .lit (.int .u8 45), .lit (.int .u8 43), .lit (.int .u8 51), .lit (.int .u8 22), .lit (.int .u8 53), .lit (.int .u8 39), .lit (.int .u8 33), .lit (.int .u8 30), .lit (.int .u8 24), .lit (.int .u8 18), .lit (.int .u8 12), .lit (.int .u8 5), .lit (.int .u8 63), .lit (.int .u8 55), .lit (.int .u8 48), .lit (.int .u8 27), .lit (.int .u8 60), .lit (.int .u8 41), .lit (.int .u8 37), .lit (.int .u8 16), .lit (.int .u8 46), .lit (.int .u8 35), .lit (.int .u8 44), .lit (.int .u8 21), .lit (.int .u8 52), .lit (.int .u8 32), .lit (.int .u8 23), .lit (.int .u8 11), .lit (.int .u8 54), .lit (.int .u8 26), .lit (.int .u8 40), .lit (.int .u8 15), .lit (.int .u8 34), .lit (.int .u8 20), .lit (.int .u8 31), .lit (.int .u8 10), .lit (.int .u8 25), .lit (.int .u8 14), .lit (.int .u8 19), .lit (.int .u8 9), .lit (.int .u8 13), .lit (.int .u8 8), .lit (.int .u8 7), .lit (.int .u8 6)]
def laid_internal_strconv_uint64pow10 {H : Type} : DataW H := .agg [.lit (.int .u64 1), .lit (.int .u64 10), .lit (.int .u64 100), .lit (.int .u64 1000), .lit (.int .u64 10000), .lit (.int .u64 100000), .lit (.int .u64 1000000), .lit (.int .u64 10000000), .lit (.int .u64 100000000), .lit (.int .u64 1000000000), .lit (.int .u64 10000000000), .lit (.int .u64 100000000000), .lit (.int .u64 1000000000000), .lit (.int .u64 10000000000000), .lit (.int .u64 100000000000000), .lit (.int .u64 1000000000000000), .lit (.int .u64 10000000000000000), .lit (.int .u64 100000000000000000), .lit (.int .u64 1000000000000000000), .lit (.int .u64 10000000000000000000)]
def laid_unicode_utf8_acceptRanges {H : Type} : DataW H := .agg [.agg [.lit (.int .u8 128), .lit (.int .u8 191)], .agg [.lit (.int .u8 160), .lit (.int .u8 191)], .agg [.lit (.int .u8 128), .lit (.int .u8 159)], .agg [.lit (.int .u8 144), .lit (.int .u8 191)], .agg [.lit (.int .u8 128), .lit (.int .u8 143)], .agg [.lit (.int .u8 0), .lit (.int .u8 0)], .agg [.lit (.int .u8 0), .lit (.int .u8 0)], .agg [.lit (.int .u8 0), .lit (.int .u8 0)], .agg [.lit (.int .u8 0), .lit (.int .u8 0)], .agg [.lit (.int .u8 0), .lit (.int .u8 0)], .agg [.lit (.int .u8 0), .lit (.int .u8 0)], .agg [.lit (.int .u8 0), .lit (.int .u8 0)], .agg [.lit (.int .u8 0), .lit (.int .u8 0)], .agg [.lit (.int .u8 0), .lit (.int .u8 0)], .agg [.lit (.int .u8 0), .lit (.int .u8 0)], .agg [.lit (.int .u8 0), .lit (.int .u8 0)]]
def laid_brickyard_action_kinds {H : Type} : DataW H := .agg [.agg [.lit (.string [101, 110, 100]), .lit (.int .i64 0), .lit (.int .i64 0), .lit (.bool false), .lit (.bool false)], .agg [.lit (.string [110, 101, 101, 100]), .lit (.int .i64 1), .lit (.int .i64 1), .lit (.bool false), .lit (.bool false)], .agg [.lit (.string [99, 97, 116]), .lit (.int .i64 1), .lit (.int .i64 1), .lit (.bool false), .lit (.bool false)], .agg [.lit (.string [116, 101, 120, 116]), .lit (.int .i64 0), .lit (.int .i64 9223372036854775807), .lit (.bool false), .lit (.bool false)], .agg [.lit (.string [117, 112, 112, 101, 114]), .lit (.int .i64 0), .lit (.int .i64 0), .lit (.bool false), .lit (.bool false)], .agg [.lit (.string [115, 111, 114, 116]), .lit (.int .i64 0), .lit (.int .i64 0), .lit (.bool false), .lit (.bool false)], .agg [.lit (.string [117, 110, 105, 113]), .lit (.int .i64 0), .lit (.int .i64 0), .lit (.bool false), .lit (.bool false)], .agg [.lit (.string [99, 111, 117, 110, 116]), .lit (.int .i64 0), .lit (.int .i64 0), .lit (.bool false), .lit (.bool false)], .agg [.lit (.string [119, 114, 105, 116, 101]), .lit (.int .i64 1), .lit (.int .i64 1), .lit (.bool false), .lit (.bool false)], .agg [.lit (.string [102, 97, 105, 108]), .lit (.int .i64 0), .lit (.int .i64 9223372036854775807), .lit (.bool false), .lit (.bool false)], .agg [.lit (.string [114, 101, 112, 101, 97, 116]), .lit (.int .i64 0), .lit (.int .i64 0), .lit (.bool true), .lit (.bool true)], .agg [.lit (.string [101, 97, 99, 104]), .lit (.int .i64 1), .lit (.int .i64 1), .lit (.bool false), .lit (.bool true)], .agg [.lit (.string [119, 104, 101, 110]), .lit (.int .i64 2), .lit (.int .i64 2), .lit (.bool false), .lit (.bool true)]]
/-- One of Go's own tables, pinned by name: the form's constant. -/
def laid_unicode_utf8_first : DataW Unit := Go.Pinned.utf8First

/-- 'brickyardlaw14.InterpBegins': WHATEVER THE INPUT: true; the input reads as it did. -/
def interpBeginsSpec : ChangeSpec := { name := "interpBegins", fn := fun _ => fun
  | [d] => { results := [.lit (.bool true)], args := [d] }
  | _ => none }
def interpBeginsRow : OpenClaim := { program := "ytnobmgkdieaclaagreatdoor", sum := "243831986188816e9ce56b08ac199e45980ba6cf6d0e244518bde58ace0f1d69", func := "brickyard/brickyardlaw14.InterpBegins", spec := "interpBegins", inPlace := ["internal/bytealg.IndexByteString", "internal/bytealg.IndexString", "internal/abi.NoEscape", "internal/bytealg.MakeNoZero", "internal/bytealg.CountString"], unfollowed := true, recurses := true, named := ["brickyard/action.kinds", "internal/bytealg.MaxLen", "unicode/utf8.first", "unicode/utf8.acceptRanges", "internal/strconv.uint64pow10", "math/bits.deBruijn32tab", "math/bits.deBruijn64tab"], loops := true, apart := false, laid := [("math/bits.deBruijn32tab", laid_math_bits_deBruijn32tab), ("math/bits.deBruijn64tab", laid_math_bits_deBruijn64tab), ("internal/strconv.uint64pow10", laid_internal_strconv_uint64pow10), ("unicode/utf8.acceptRanges", laid_unicode_utf8_acceptRanges), ("brickyard/action.kinds", laid_brickyard_action_kinds), ("unicode/utf8.first", laid_unicode_utf8_first)] }
def InterpBeginsSaid : Prop := interpBeginsRow.holds Tryz.pinned (OpenSpec.ofChange interpBeginsSpec)

/-- ITS FALSE NEIGHBOUR: 'it returns false'. Refute it at one input. -/
def interpBeginsWrong : ChangeSpec := { name := "interpBegins", fn := fun _ => fun
  | [d] => { results := [.lit (.bool false)], args := [d] }
  | _ => none }
def InterpBeginsWrongFalsely : Prop := interpBeginsRow.holds Tryz.pinned (OpenSpec.ofChange interpBeginsWrong)

/-- 'brickyardlaw14.InterpPlays': WHATEVER THE INPUT: true; the input reads as it did. -/
def interpPlaysSpec : ChangeSpec := { name := "interpPlays", fn := fun _ => fun
  | [d1, d2] => { results := [.lit (.bool true)], args := [d1, d2] }
  | _ => none }
def interpPlaysRow : OpenClaim := { program := "ytnobmgkdieaclaagreatdoor", sum := "243831986188816e9ce56b08ac199e45980ba6cf6d0e244518bde58ace0f1d69", func := "brickyard/brickyardlaw14.InterpPlays", spec := "interpPlays", inPlace := ["internal/bytealg.IndexByteString", "internal/bytealg.IndexString", "internal/abi.NoEscape", "internal/bytealg.MakeNoZero", "internal/bytealg.CountString"], unfollowed := true, recurses := true, named := ["brickyard/action.kinds", "internal/bytealg.MaxLen", "unicode/utf8.first", "unicode/utf8.acceptRanges", "internal/strconv.uint64pow10", "math/bits.deBruijn32tab", "math/bits.deBruijn64tab"], loops := true, apart := false, laid := [("math/bits.deBruijn32tab", laid_math_bits_deBruijn32tab), ("math/bits.deBruijn64tab", laid_math_bits_deBruijn64tab), ("internal/strconv.uint64pow10", laid_internal_strconv_uint64pow10), ("unicode/utf8.acceptRanges", laid_unicode_utf8_acceptRanges), ("brickyard/action.kinds", laid_brickyard_action_kinds), ("unicode/utf8.first", laid_unicode_utf8_first)] }
def InterpPlaysSaid : Prop := interpPlaysRow.holds Tryz.pinned (OpenSpec.ofChange interpPlaysSpec)

/-- ITS FALSE NEIGHBOUR: 'it returns false'. Refute it at one input. -/
def interpPlaysWrong : ChangeSpec := { name := "interpPlays", fn := fun _ => fun
  | [d1, d2] => { results := [.lit (.bool false)], args := [d1, d2] }
  | _ => none }
def InterpPlaysWrongFalsely : Prop := interpPlaysRow.holds Tryz.pinned (OpenSpec.ofChange interpPlaysWrong)

/-- 'brickyardlaw14.InterpDoes': WHATEVER THE INPUT: true; the input reads as it did. -/
def interpDoesSpec : ChangeSpec := { name := "interpDoes", fn := fun _ => fun
  | [d1, d2] => { results := [.lit (.bool true)], args := [d1, d2] }
  | _ => none }
def interpDoesRow : OpenClaim := { program := "ytnobmgkdieaclaagreatdoor", sum := "243831986188816e9ce56b08ac199e45980ba6cf6d0e244518bde58ace0f1d69", func := "brickyard/brickyardlaw14.InterpDoes", spec := "interpDoes", inPlace := ["internal/bytealg.IndexByteString", "internal/bytealg.IndexString", "internal/abi.NoEscape", "internal/bytealg.MakeNoZero", "internal/bytealg.CountString"], unfollowed := true, recurses := true, named := ["brickyard/action.kinds", "internal/bytealg.MaxLen", "unicode/utf8.first", "unicode/utf8.acceptRanges", "internal/strconv.uint64pow10", "math/bits.deBruijn32tab", "math/bits.deBruijn64tab"], loops := true, apart := false, laid := [("math/bits.deBruijn32tab", laid_math_bits_deBruijn32tab), ("math/bits.deBruijn64tab", laid_math_bits_deBruijn64tab), ("internal/strconv.uint64pow10", laid_internal_strconv_uint64pow10), ("unicode/utf8.acceptRanges", laid_unicode_utf8_acceptRanges), ("brickyard/action.kinds", laid_brickyard_action_kinds), ("unicode/utf8.first", laid_unicode_utf8_first)] }
def InterpDoesSaid : Prop := interpDoesRow.holds Tryz.pinned (OpenSpec.ofChange interpDoesSpec)

/-- ITS FALSE NEIGHBOUR: 'it returns false'. Refute it at one input. -/
def interpDoesWrong : ChangeSpec := { name := "interpDoes", fn := fun _ => fun
  | [d1, d2] => { results := [.lit (.bool false)], args := [d1, d2] }
  | _ => none }
def InterpDoesWrongFalsely : Prop := interpDoesRow.holds Tryz.pinned (OpenSpec.ofChange interpDoesWrong)

/-- 'brickyardlaw14.InterpNone': WHATEVER THE INPUT: true; the input reads as it did. -/
def interpNoneSpec : ChangeSpec := { name := "interpNone", fn := fun _ => fun
  | [d] => { results := [.lit (.bool true)], args := [d] }
  | _ => none }
def interpNoneRow : OpenClaim := { program := "ytnobmgkdieaclaagreatdoor", sum := "243831986188816e9ce56b08ac199e45980ba6cf6d0e244518bde58ace0f1d69", func := "brickyard/brickyardlaw14.InterpNone", spec := "interpNone", inPlace := ["internal/bytealg.IndexByteString", "internal/bytealg.IndexString", "internal/abi.NoEscape", "internal/bytealg.MakeNoZero", "internal/bytealg.CountString", "maps.clone"], unfollowed := true, recurses := true, named := ["brickyard/action.kinds", "internal/bytealg.MaxLen", "unicode/utf8.first", "unicode/utf8.acceptRanges", "internal/strconv.uint64pow10", "math/bits.deBruijn32tab", "math/bits.deBruijn64tab"], apart := false, laid := [("math/bits.deBruijn32tab", laid_math_bits_deBruijn32tab), ("math/bits.deBruijn64tab", laid_math_bits_deBruijn64tab), ("internal/strconv.uint64pow10", laid_internal_strconv_uint64pow10), ("unicode/utf8.acceptRanges", laid_unicode_utf8_acceptRanges), ("brickyard/action.kinds", laid_brickyard_action_kinds), ("unicode/utf8.first", laid_unicode_utf8_first)] }
def InterpNoneSaid : Prop := interpNoneRow.holds Tryz.pinned (OpenSpec.ofChange interpNoneSpec)

/-- ITS FALSE NEIGHBOUR: 'it returns false'. Refute it at one input. -/
def interpNoneWrong : ChangeSpec := { name := "interpNone", fn := fun _ => fun
  | [d] => { results := [.lit (.bool false)], args := [d] }
  | _ => none }
def InterpNoneWrongFalsely : Prop := interpNoneRow.holds Tryz.pinned (OpenSpec.ofChange interpNoneWrong)

/-- 'brickyardlaw14.InterpResumes': WHATEVER THE INPUT: true; the input reads as it did. -/
def interpResumesSpec : ChangeSpec := { name := "interpResumes", fn := fun _ => fun
  | [d1, d2, d3] => { results := [.lit (.bool true)], args := [d1, d2, d3] }
  | _ => none }
def interpResumesRow : OpenClaim := { program := "ytnobmgkdieaclaagreatdoor", sum := "243831986188816e9ce56b08ac199e45980ba6cf6d0e244518bde58ace0f1d69", func := "brickyard/brickyardlaw14.InterpResumes", spec := "interpResumes", inPlace := ["internal/bytealg.IndexByteString", "internal/bytealg.IndexString", "internal/abi.NoEscape", "internal/bytealg.MakeNoZero", "internal/bytealg.CountString", "maps.clone"], unfollowed := true, recurses := true, named := ["brickyard/action.kinds", "internal/bytealg.MaxLen", "unicode/utf8.first", "unicode/utf8.acceptRanges", "internal/strconv.uint64pow10", "math/bits.deBruijn32tab", "math/bits.deBruijn64tab"], loops := true, apart := false, laid := [("math/bits.deBruijn32tab", laid_math_bits_deBruijn32tab), ("math/bits.deBruijn64tab", laid_math_bits_deBruijn64tab), ("internal/strconv.uint64pow10", laid_internal_strconv_uint64pow10), ("unicode/utf8.acceptRanges", laid_unicode_utf8_acceptRanges), ("brickyard/action.kinds", laid_brickyard_action_kinds), ("unicode/utf8.first", laid_unicode_utf8_first)] }
def InterpResumesSaid : Prop := interpResumesRow.holds Tryz.pinned (OpenSpec.ofChange interpResumesSpec)

/-- ITS FALSE NEIGHBOUR: 'it returns false'. Refute it at one input. -/
def interpResumesWrong : ChangeSpec := { name := "interpResumes", fn := fun _ => fun
  | [d1, d2, d3] => { results := [.lit (.bool false)], args := [d1, d2, d3] }
  | _ => none }
def InterpResumesWrongFalsely : Prop := interpResumesRow.holds Tryz.pinned (OpenSpec.ofChange interpResumesWrong)

/-- 'brickyardlaw14.InterpAsks': WHATEVER THE INPUT: true; the input reads as it did. -/
def interpAsksSpec : ChangeSpec := { name := "interpAsks", fn := fun _ => fun
  | [d1, d2, d3] => { results := [.lit (.bool true)], args := [d1, d2, d3] }
  | _ => none }
def interpAsksRow : OpenClaim := { program := "ytnobmgkdieaclaagreatdoor", sum := "243831986188816e9ce56b08ac199e45980ba6cf6d0e244518bde58ace0f1d69", func := "brickyard/brickyardlaw14.InterpAsks", spec := "interpAsks", inPlace := ["internal/bytealg.IndexByteString", "internal/bytealg.IndexString", "internal/abi.NoEscape", "internal/bytealg.MakeNoZero", "internal/bytealg.CountString"], unfollowed := true, recurses := true, named := ["brickyard/action.kinds", "internal/bytealg.MaxLen", "unicode/utf8.first", "unicode/utf8.acceptRanges", "internal/strconv.uint64pow10", "math/bits.deBruijn32tab", "math/bits.deBruijn64tab"], loops := true, apart := false, laid := [("math/bits.deBruijn32tab", laid_math_bits_deBruijn32tab), ("math/bits.deBruijn64tab", laid_math_bits_deBruijn64tab), ("internal/strconv.uint64pow10", laid_internal_strconv_uint64pow10), ("unicode/utf8.acceptRanges", laid_unicode_utf8_acceptRanges), ("brickyard/action.kinds", laid_brickyard_action_kinds), ("unicode/utf8.first", laid_unicode_utf8_first)] }
def InterpAsksSaid : Prop := interpAsksRow.holds Tryz.pinned (OpenSpec.ofChange interpAsksSpec)

/-- ITS FALSE NEIGHBOUR: 'it returns false'. Refute it at one input. -/
def interpAsksWrong : ChangeSpec := { name := "interpAsks", fn := fun _ => fun
  | [d1, d2, d3] => { results := [.lit (.bool false)], args := [d1, d2, d3] }
  | _ => none }
def InterpAsksWrongFalsely : Prop := interpAsksRow.holds Tryz.pinned (OpenSpec.ofChange interpAsksWrong)

/-- 'brickyardlaw14.InterpFuel': WHATEVER THE INPUT: true; the input reads as it did. -/
def interpFuelSpec : ChangeSpec := { name := "interpFuel", fn := fun _ => fun
  | [d1, d2, d3] => { results := [.lit (.bool true)], args := [d1, d2, d3] }
  | _ => none }
def interpFuelRow : OpenClaim := { program := "ytnobmgkdieaclaagreatdoor", sum := "243831986188816e9ce56b08ac199e45980ba6cf6d0e244518bde58ace0f1d69", func := "brickyard/brickyardlaw14.InterpFuel", spec := "interpFuel", inPlace := ["internal/bytealg.IndexByteString", "internal/bytealg.IndexString", "internal/abi.NoEscape", "internal/bytealg.MakeNoZero", "internal/bytealg.CountString"], unfollowed := true, recurses := true, named := ["brickyard/action.kinds", "internal/bytealg.MaxLen", "unicode/utf8.first", "unicode/utf8.acceptRanges", "internal/strconv.uint64pow10", "math/bits.deBruijn32tab", "math/bits.deBruijn64tab"], loops := true, apart := false, laid := [("math/bits.deBruijn32tab", laid_math_bits_deBruijn32tab), ("math/bits.deBruijn64tab", laid_math_bits_deBruijn64tab), ("internal/strconv.uint64pow10", laid_internal_strconv_uint64pow10), ("unicode/utf8.acceptRanges", laid_unicode_utf8_acceptRanges), ("brickyard/action.kinds", laid_brickyard_action_kinds), ("unicode/utf8.first", laid_unicode_utf8_first)] }
def InterpFuelSaid : Prop := interpFuelRow.holds Tryz.pinned (OpenSpec.ofChange interpFuelSpec)

/-- ITS FALSE NEIGHBOUR: 'it returns false'. Refute it at one input. -/
def interpFuelWrong : ChangeSpec := { name := "interpFuel", fn := fun _ => fun
  | [d1, d2, d3] => { results := [.lit (.bool false)], args := [d1, d2, d3] }
  | _ => none }
def InterpFuelWrongFalsely : Prop := interpFuelRow.holds Tryz.pinned (OpenSpec.ofChange interpFuelWrong)

/-- 'brickyardlaw14.InterpLines': WHATEVER THE INPUT: true; the input reads as it did. -/
def interpLinesSpec : ChangeSpec := { name := "interpLines", fn := fun _ => fun
  | [d] => { results := [.lit (.bool true)], args := [d] }
  | _ => none }
def interpLinesRow : OpenClaim := { program := "ytnobmgkdieaclaagreatdoor", sum := "243831986188816e9ce56b08ac199e45980ba6cf6d0e244518bde58ace0f1d69", func := "brickyard/brickyardlaw14.InterpLines", spec := "interpLines", inPlace := ["internal/bytealg.IndexByteString", "internal/bytealg.IndexString", "internal/abi.NoEscape", "internal/bytealg.MakeNoZero", "internal/bytealg.CountString"], unfollowed := true, recurses := true, named := ["brickyard/action.kinds", "internal/bytealg.MaxLen", "unicode/utf8.first", "unicode/utf8.acceptRanges", "internal/strconv.uint64pow10", "math/bits.deBruijn32tab", "math/bits.deBruijn64tab"], apart := false, laid := [("math/bits.deBruijn32tab", laid_math_bits_deBruijn32tab), ("math/bits.deBruijn64tab", laid_math_bits_deBruijn64tab), ("internal/strconv.uint64pow10", laid_internal_strconv_uint64pow10), ("unicode/utf8.acceptRanges", laid_unicode_utf8_acceptRanges), ("brickyard/action.kinds", laid_brickyard_action_kinds), ("unicode/utf8.first", laid_unicode_utf8_first)] }
def InterpLinesSaid : Prop := interpLinesRow.holds Tryz.pinned (OpenSpec.ofChange interpLinesSpec)

/-- ITS FALSE NEIGHBOUR: 'it returns false'. Refute it at one input. -/
def interpLinesWrong : ChangeSpec := { name := "interpLines", fn := fun _ => fun
  | [d] => { results := [.lit (.bool false)], args := [d] }
  | _ => none }
def InterpLinesWrongFalsely : Prop := interpLinesRow.holds Tryz.pinned (OpenSpec.ofChange interpLinesWrong)

/-- 'brickyardlaw14.InterpNames': WHATEVER THE INPUT: true; the input reads as it did. -/
def interpNamesSpec : ChangeSpec := { name := "interpNames", fn := fun _ => fun
  | [] => { results := [.lit (.bool true)], args := [] }
  | _ => none }
def interpNamesRow : OpenClaim := { program := "ytnobmgkdieaclaagreatdoor", sum := "243831986188816e9ce56b08ac199e45980ba6cf6d0e244518bde58ace0f1d69", func := "brickyard/brickyardlaw14.InterpNames", spec := "interpNames", inPlace := ["internal/bytealg.IndexByteString", "internal/bytealg.IndexString", "internal/abi.NoEscape", "internal/bytealg.MakeNoZero", "internal/bytealg.CountString"], unfollowed := true, recurses := true, named := ["brickyard/action.kinds", "internal/bytealg.MaxLen", "unicode/utf8.first", "unicode/utf8.acceptRanges", "internal/strconv.uint64pow10", "math/bits.deBruijn32tab", "math/bits.deBruijn64tab"], apart := false, laid := [("math/bits.deBruijn32tab", laid_math_bits_deBruijn32tab), ("math/bits.deBruijn64tab", laid_math_bits_deBruijn64tab), ("internal/strconv.uint64pow10", laid_internal_strconv_uint64pow10), ("unicode/utf8.acceptRanges", laid_unicode_utf8_acceptRanges), ("brickyard/action.kinds", laid_brickyard_action_kinds), ("unicode/utf8.first", laid_unicode_utf8_first)] }
def InterpNamesSaid : Prop := interpNamesRow.holds Tryz.pinned (OpenSpec.ofChange interpNamesSpec)

/-- ITS FALSE NEIGHBOUR: 'it returns false'. Refute it at one input. -/
def interpNamesWrong : ChangeSpec := { name := "interpNames", fn := fun _ => fun
  | [] => { results := [.lit (.bool false)], args := [] }
  | _ => none }
def InterpNamesWrongFalsely : Prop := interpNamesRow.holds Tryz.pinned (OpenSpec.ofChange interpNamesWrong)

/- THE SECOND FORM. 'bulk': how many values and letters a reading holds, each counted each time it is reached (what is shared counts as often as it is met; a slice's spare places count too). A statement '..UptoSaid' is the law's where the arguments, and the package variables that the reading takes, are together of bulk at most 1048576: NARROWER than '..Said'. Prove '..Said' where nothing that the law and all that it calls make is longer than what came in: it says more and counts as full. Else prove '..UptoSaid'. A law counts once. -/
mutual
def uptoBulk {H : Type} : DataW H → Nat
  | .lit (.string bytes) => bytes.length + 1
  | .lit _ => 1
  | .nil => 1
  | .ptr d => uptoBulk d + 1
  | .slice elems spare => uptoBulkAll elems + uptoBulkAll spare + 1
  | .agg parts => uptoBulkAll parts + 1
  | .iface _ d => uptoBulk d + 1
  | .map entries => uptoBulkEntries entries + 1
  | .held _ => 1
def uptoBulkAll {H : Type} : List (DataW H) → Nat
  | [] => 0
  | d :: r => uptoBulk d + uptoBulkAll r
def uptoBulkEntries {H : Type} : List (Lit × DataW H) → Nat
  | [] => 0
  | x :: r => uptoBulkEntry x + uptoBulkEntries r
def uptoBulkEntry {H : Type} : Lit × DataW H → Nat
  | (.string bytes, d) => bytes.length + uptoBulk d + 1
  | (_, d) => uptoBulk d + 1
 end
def uptoSmall : (H : Type) → List (DataW H) → Bool := fun _ ds => decide (uptoBulkAll ds ≤ 1048576)
def OpenSpec.upto (s : _root_.Go.ChangeSpec) : _root_.Go.OpenSpec := { _root_.Go.OpenSpec.ofChange s with cond := some uptoSmall }

/-- 'brickyardlaw14.InterpBegins', WHERE WHAT IT READS IS OF BULK AT MOST 1048576: true; the input reads as it did. -/
def interpBeginsUptoRow : OpenClaim := { program := "ytnobmgkdieaclaagreatdoor", sum := "243831986188816e9ce56b08ac199e45980ba6cf6d0e244518bde58ace0f1d69", func := "brickyard/brickyardlaw14.InterpBegins", spec := "interpBegins", inPlace := ["internal/bytealg.IndexByteString", "internal/bytealg.IndexString", "internal/abi.NoEscape", "internal/bytealg.MakeNoZero", "internal/bytealg.CountString"], unfollowed := true, recurses := true, named := ["brickyard/action.kinds", "internal/bytealg.MaxLen", "unicode/utf8.first", "unicode/utf8.acceptRanges", "internal/strconv.uint64pow10", "math/bits.deBruijn32tab", "math/bits.deBruijn64tab"], loops := true, apart := false, laid := [("math/bits.deBruijn32tab", laid_math_bits_deBruijn32tab), ("math/bits.deBruijn64tab", laid_math_bits_deBruijn64tab), ("internal/strconv.uint64pow10", laid_internal_strconv_uint64pow10), ("unicode/utf8.acceptRanges", laid_unicode_utf8_acceptRanges), ("brickyard/action.kinds", laid_brickyard_action_kinds), ("unicode/utf8.first", laid_unicode_utf8_first)], narrowed := true }
def InterpBeginsUptoSaid : Prop := interpBeginsUptoRow.holds Tryz.pinned (OpenSpec.upto interpBeginsSpec)

/-- 'brickyardlaw14.InterpPlays', WHERE WHAT IT READS IS OF BULK AT MOST 1048576: true; the input reads as it did. -/
def interpPlaysUptoRow : OpenClaim := { program := "ytnobmgkdieaclaagreatdoor", sum := "243831986188816e9ce56b08ac199e45980ba6cf6d0e244518bde58ace0f1d69", func := "brickyard/brickyardlaw14.InterpPlays", spec := "interpPlays", inPlace := ["internal/bytealg.IndexByteString", "internal/bytealg.IndexString", "internal/abi.NoEscape", "internal/bytealg.MakeNoZero", "internal/bytealg.CountString"], unfollowed := true, recurses := true, named := ["brickyard/action.kinds", "internal/bytealg.MaxLen", "unicode/utf8.first", "unicode/utf8.acceptRanges", "internal/strconv.uint64pow10", "math/bits.deBruijn32tab", "math/bits.deBruijn64tab"], loops := true, apart := false, laid := [("math/bits.deBruijn32tab", laid_math_bits_deBruijn32tab), ("math/bits.deBruijn64tab", laid_math_bits_deBruijn64tab), ("internal/strconv.uint64pow10", laid_internal_strconv_uint64pow10), ("unicode/utf8.acceptRanges", laid_unicode_utf8_acceptRanges), ("brickyard/action.kinds", laid_brickyard_action_kinds), ("unicode/utf8.first", laid_unicode_utf8_first)], narrowed := true }
def InterpPlaysUptoSaid : Prop := interpPlaysUptoRow.holds Tryz.pinned (OpenSpec.upto interpPlaysSpec)

/-- 'brickyardlaw14.InterpDoes', WHERE WHAT IT READS IS OF BULK AT MOST 1048576: true; the input reads as it did. -/
def interpDoesUptoRow : OpenClaim := { program := "ytnobmgkdieaclaagreatdoor", sum := "243831986188816e9ce56b08ac199e45980ba6cf6d0e244518bde58ace0f1d69", func := "brickyard/brickyardlaw14.InterpDoes", spec := "interpDoes", inPlace := ["internal/bytealg.IndexByteString", "internal/bytealg.IndexString", "internal/abi.NoEscape", "internal/bytealg.MakeNoZero", "internal/bytealg.CountString"], unfollowed := true, recurses := true, named := ["brickyard/action.kinds", "internal/bytealg.MaxLen", "unicode/utf8.first", "unicode/utf8.acceptRanges", "internal/strconv.uint64pow10", "math/bits.deBruijn32tab", "math/bits.deBruijn64tab"], loops := true, apart := false, laid := [("math/bits.deBruijn32tab", laid_math_bits_deBruijn32tab), ("math/bits.deBruijn64tab", laid_math_bits_deBruijn64tab), ("internal/strconv.uint64pow10", laid_internal_strconv_uint64pow10), ("unicode/utf8.acceptRanges", laid_unicode_utf8_acceptRanges), ("brickyard/action.kinds", laid_brickyard_action_kinds), ("unicode/utf8.first", laid_unicode_utf8_first)], narrowed := true }
def InterpDoesUptoSaid : Prop := interpDoesUptoRow.holds Tryz.pinned (OpenSpec.upto interpDoesSpec)

/-- 'brickyardlaw14.InterpNone', WHERE WHAT IT READS IS OF BULK AT MOST 1048576: true; the input reads as it did. -/
def interpNoneUptoRow : OpenClaim := { program := "ytnobmgkdieaclaagreatdoor", sum := "243831986188816e9ce56b08ac199e45980ba6cf6d0e244518bde58ace0f1d69", func := "brickyard/brickyardlaw14.InterpNone", spec := "interpNone", inPlace := ["internal/bytealg.IndexByteString", "internal/bytealg.IndexString", "internal/abi.NoEscape", "internal/bytealg.MakeNoZero", "internal/bytealg.CountString", "maps.clone"], unfollowed := true, recurses := true, named := ["brickyard/action.kinds", "internal/bytealg.MaxLen", "unicode/utf8.first", "unicode/utf8.acceptRanges", "internal/strconv.uint64pow10", "math/bits.deBruijn32tab", "math/bits.deBruijn64tab"], apart := false, laid := [("math/bits.deBruijn32tab", laid_math_bits_deBruijn32tab), ("math/bits.deBruijn64tab", laid_math_bits_deBruijn64tab), ("internal/strconv.uint64pow10", laid_internal_strconv_uint64pow10), ("unicode/utf8.acceptRanges", laid_unicode_utf8_acceptRanges), ("brickyard/action.kinds", laid_brickyard_action_kinds), ("unicode/utf8.first", laid_unicode_utf8_first)], narrowed := true }
def InterpNoneUptoSaid : Prop := interpNoneUptoRow.holds Tryz.pinned (OpenSpec.upto interpNoneSpec)

/-- 'brickyardlaw14.InterpResumes', WHERE WHAT IT READS IS OF BULK AT MOST 1048576: true; the input reads as it did. -/
def interpResumesUptoRow : OpenClaim := { program := "ytnobmgkdieaclaagreatdoor", sum := "243831986188816e9ce56b08ac199e45980ba6cf6d0e244518bde58ace0f1d69", func := "brickyard/brickyardlaw14.InterpResumes", spec := "interpResumes", inPlace := ["internal/bytealg.IndexByteString", "internal/bytealg.IndexString", "internal/abi.NoEscape", "internal/bytealg.MakeNoZero", "internal/bytealg.CountString", "maps.clone"], unfollowed := true, recurses := true, named := ["brickyard/action.kinds", "internal/bytealg.MaxLen", "unicode/utf8.first", "unicode/utf8.acceptRanges", "internal/strconv.uint64pow10", "math/bits.deBruijn32tab", "math/bits.deBruijn64tab"], loops := true, apart := false, laid := [("math/bits.deBruijn32tab", laid_math_bits_deBruijn32tab), ("math/bits.deBruijn64tab", laid_math_bits_deBruijn64tab), ("internal/strconv.uint64pow10", laid_internal_strconv_uint64pow10), ("unicode/utf8.acceptRanges", laid_unicode_utf8_acceptRanges), ("brickyard/action.kinds", laid_brickyard_action_kinds), ("unicode/utf8.first", laid_unicode_utf8_first)], narrowed := true }
def InterpResumesUptoSaid : Prop := interpResumesUptoRow.holds Tryz.pinned (OpenSpec.upto interpResumesSpec)

/-- 'brickyardlaw14.InterpAsks', WHERE WHAT IT READS IS OF BULK AT MOST 1048576: true; the input reads as it did. -/
def interpAsksUptoRow : OpenClaim := { program := "ytnobmgkdieaclaagreatdoor", sum := "243831986188816e9ce56b08ac199e45980ba6cf6d0e244518bde58ace0f1d69", func := "brickyard/brickyardlaw14.InterpAsks", spec := "interpAsks", inPlace := ["internal/bytealg.IndexByteString", "internal/bytealg.IndexString", "internal/abi.NoEscape", "internal/bytealg.MakeNoZero", "internal/bytealg.CountString"], unfollowed := true, recurses := true, named := ["brickyard/action.kinds", "internal/bytealg.MaxLen", "unicode/utf8.first", "unicode/utf8.acceptRanges", "internal/strconv.uint64pow10", "math/bits.deBruijn32tab", "math/bits.deBruijn64tab"], loops := true, apart := false, laid := [("math/bits.deBruijn32tab", laid_math_bits_deBruijn32tab), ("math/bits.deBruijn64tab", laid_math_bits_deBruijn64tab), ("internal/strconv.uint64pow10", laid_internal_strconv_uint64pow10), ("unicode/utf8.acceptRanges", laid_unicode_utf8_acceptRanges), ("brickyard/action.kinds", laid_brickyard_action_kinds), ("unicode/utf8.first", laid_unicode_utf8_first)], narrowed := true }
def InterpAsksUptoSaid : Prop := interpAsksUptoRow.holds Tryz.pinned (OpenSpec.upto interpAsksSpec)

/-- 'brickyardlaw14.InterpFuel', WHERE WHAT IT READS IS OF BULK AT MOST 1048576: true; the input reads as it did. -/
def interpFuelUptoRow : OpenClaim := { program := "ytnobmgkdieaclaagreatdoor", sum := "243831986188816e9ce56b08ac199e45980ba6cf6d0e244518bde58ace0f1d69", func := "brickyard/brickyardlaw14.InterpFuel", spec := "interpFuel", inPlace := ["internal/bytealg.IndexByteString", "internal/bytealg.IndexString", "internal/abi.NoEscape", "internal/bytealg.MakeNoZero", "internal/bytealg.CountString"], unfollowed := true, recurses := true, named := ["brickyard/action.kinds", "internal/bytealg.MaxLen", "unicode/utf8.first", "unicode/utf8.acceptRanges", "internal/strconv.uint64pow10", "math/bits.deBruijn32tab", "math/bits.deBruijn64tab"], loops := true, apart := false, laid := [("math/bits.deBruijn32tab", laid_math_bits_deBruijn32tab), ("math/bits.deBruijn64tab", laid_math_bits_deBruijn64tab), ("internal/strconv.uint64pow10", laid_internal_strconv_uint64pow10), ("unicode/utf8.acceptRanges", laid_unicode_utf8_acceptRanges), ("brickyard/action.kinds", laid_brickyard_action_kinds), ("unicode/utf8.first", laid_unicode_utf8_first)], narrowed := true }
def InterpFuelUptoSaid : Prop := interpFuelUptoRow.holds Tryz.pinned (OpenSpec.upto interpFuelSpec)

/-- 'brickyardlaw14.InterpLines', WHERE WHAT IT READS IS OF BULK AT MOST 1048576: true; the input reads as it did. -/
def interpLinesUptoRow : OpenClaim := { program := "ytnobmgkdieaclaagreatdoor", sum := "243831986188816e9ce56b08ac199e45980ba6cf6d0e244518bde58ace0f1d69", func := "brickyard/brickyardlaw14.InterpLines", spec := "interpLines", inPlace := ["internal/bytealg.IndexByteString", "internal/bytealg.IndexString", "internal/abi.NoEscape", "internal/bytealg.MakeNoZero", "internal/bytealg.CountString"], unfollowed := true, recurses := true, named := ["brickyard/action.kinds", "internal/bytealg.MaxLen", "unicode/utf8.first", "unicode/utf8.acceptRanges", "internal/strconv.uint64pow10", "math/bits.deBruijn32tab", "math/bits.deBruijn64tab"], apart := false, laid := [("math/bits.deBruijn32tab", laid_math_bits_deBruijn32tab), ("math/bits.deBruijn64tab", laid_math_bits_deBruijn64tab), ("internal/strconv.uint64pow10", laid_internal_strconv_uint64pow10), ("unicode/utf8.acceptRanges", laid_unicode_utf8_acceptRanges), ("brickyard/action.kinds", laid_brickyard_action_kinds), ("unicode/utf8.first", laid_unicode_utf8_first)], narrowed := true }
def InterpLinesUptoSaid : Prop := interpLinesUptoRow.holds Tryz.pinned (OpenSpec.upto interpLinesSpec)

/-- 'brickyardlaw14.InterpNames', WHERE WHAT IT READS IS OF BULK AT MOST 1048576: true; the input reads as it did. -/
def interpNamesUptoRow : OpenClaim := { program := "ytnobmgkdieaclaagreatdoor", sum := "243831986188816e9ce56b08ac199e45980ba6cf6d0e244518bde58ace0f1d69", func := "brickyard/brickyardlaw14.InterpNames", spec := "interpNames", inPlace := ["internal/bytealg.IndexByteString", "internal/bytealg.IndexString", "internal/abi.NoEscape", "internal/bytealg.MakeNoZero", "internal/bytealg.CountString"], unfollowed := true, recurses := true, named := ["brickyard/action.kinds", "internal/bytealg.MaxLen", "unicode/utf8.first", "unicode/utf8.acceptRanges", "internal/strconv.uint64pow10", "math/bits.deBruijn32tab", "math/bits.deBruijn64tab"], apart := false, laid := [("math/bits.deBruijn32tab", laid_math_bits_deBruijn32tab), ("math/bits.deBruijn64tab", laid_math_bits_deBruijn64tab), ("internal/strconv.uint64pow10", laid_internal_strconv_uint64pow10), ("unicode/utf8.acceptRanges", laid_unicode_utf8_acceptRanges), ("brickyard/action.kinds", laid_brickyard_action_kinds), ("unicode/utf8.first", laid_unicode_utf8_first)], narrowed := true }
def InterpNamesUptoSaid : Prop := interpNamesUptoRow.holds Tryz.pinned (OpenSpec.upto interpNamesSpec)

end Rows
end Go.Proofs.YtnobmgkdieaclaaGreatDoor
