/-
  NARROWER THAN 'FOR EVERY INPUT', by the rows' own cells (each row's printed sentence says how): FindsCheckSpec: laid · FindsEnterSpec: laid · FindsAtSpec: laid · FindsPartsSpec: laid · FindsLineageSpec: laid · FindsJoinedSpec: laid · FindsTexts: laid · FindsUntouched: laid · FindsSplit: laid · FindsLeaves: laid · FindsKnown: laid · FindsJoined: laid · FindsOverlap: laid · FindsApart: laid · FindsDeeds: laid.
  DERIVED. THE GIVEN ROWS OF THIS SEAT. 15 by the template 'for every input the law returns true; each argument reads behind the call as it read before'; 0 by the template 'total and deterministic' (their statements: YtilfiadkhohfiaaGreatDoorTotals.lean).
  GIVEN WITH THE SEED: the statements are not yours to turn. If you find one false, say at which input.
  Laid BY PROGRAM, IN A SANDBOX (cutbox-rows.mjs): the forced cells as the released guide's own fill.sh prints them over the translation 28dd8e8db219f83a… (all of the seat's roots in one cut). By AI agents, Wed Nov 11 2026. No macro, syntax, notation, axiom, sorry.
-/
import Derived.Test.YtilfiadkhohfiaaGreatDoorChecked
import GoSem.PinnedTables
import GoSem.Claim
import GoSem.ClaimJoined
import GoSem.ClaimMapViews
import Derived.JoinedTies
import Derived.KernelRfl
namespace Go.Proofs.YtilfiadkhohfiaaGreatDoor
/- THE CELL 'sum', in the pinned program and in every row, IS THE sha256 OF THE DUMP (.gsa) THAT YtilfiadkhohfiaaGreatDoorProg.lean LOADS. Nothing in Lean hashes anything: it is a label: what it is worth is what the hold of that sum in a sandbox is worth. -/
noncomputable def Tryz.pinned : Pinned := { name := "ytilfiadkhohfiaagreatdoor", sum := "28dd8e8db219f83a025e1cdd1d5938c42d08f4e2362b628d117ed05fe44f0998", checked := Tryz.checked }
namespace Rows
def none {H : Type} : Left H := { results := [], args := [] }

/- WHAT THE LISTED PACKAGE-LEVEL VARIABLES READ AS WHEN THE CALL BEGINS. Each datum BY PROGRAM (the guide's laid-datum.mjs) off the statement by which the dump's own 'gosem.cut.vars' lays the variable. In a bare row this is a premise. The card (YtilfiadkhohfiaaGreatDoorCards.lean) ties it to the program's text. -/
def laid_math_bits_deBruijn32tab {H : Type} : DataW H := .agg [.lit (.int .u8 0), .lit (.int .u8 1), .lit (.int .u8 28), .lit (.int .u8 2), .lit (.int .u8 29), .lit (.int .u8 14), .lit (.int .u8 24), .lit (.int .u8 3), .lit (.int .u8 30), .lit (.int .u8 22), .lit (.int .u8 20), .lit (.int .u8 15), .lit (.int .u8 25), .lit (.int .u8 17), .lit (.int .u8 4), .lit (.int .u8 8), .lit (.int .u8 31), .lit (.int .u8 27), .lit (.int .u8 13), .lit (.int .u8 23), .lit (.int .u8 21), .lit (.int .u8 19), .lit (.int .u8 16), .lit (.int .u8 7), .lit (.int .u8 26), .lit (.int .u8 12), .lit (.int .u8 18), .lit (.int .u8 6), .lit (.int .u8 11), .lit (.int .u8 5), .lit (.int .u8 10), .lit (.int .u8 9)]
def laid_math_bits_deBruijn64tab {H : Type} : DataW H := .agg [.lit (.int .u8 0), .lit (.int .u8 1), .lit (.int .u8 56), .lit (.int .u8 2), .lit (.int .u8 57), .lit (.int .u8 49), .lit (.int .u8 28), .lit (.int .u8 3), .lit (.int .u8 61), .lit (.int .u8 58), .lit (.int .u8 42), .lit (.int .u8 50), .lit (.int .u8 38), .lit (.int .u8 29), .lit (.int .u8 17), .lit (.int .u8 4), .lit (.int .u8 62), .lit (.int .u8 47), .lit (.int .u8 59), .lit (.int .u8 36), .lit (.int .u8 45), .lit (.int .u8 43), .lit (.int .u8 51), .lit (.int .u8 22), .lit (.int .u8 53), .lit (.int .u8 39), .lit (.int .u8 33), .lit (.int .u8 30), .lit (.int .u8 24), .lit (.int .u8 18), .lit (.int .u8 12), .lit (.int .u8 5), .lit (.int .u8 63), .lit (.int .u8 55), .lit (.int .u8 48), .lit (.int .u8 27), .lit (.int .u8 60), .lit (.int .u8 41), .lit (.int .u8 37), .lit (.int .u8 16), .lit (.int .u8 46), .lit (.int .u8 35), .lit (.int .u8 44), .lit (.int .u8 21), .lit (.int .u8 52), .lit (.int .u8 32), .lit (.int .u8 23), .lit (.int .u8 11), .lit (.int .u8 54), .lit (.int .u8 26), .lit (.int .u8 40), .lit (.int .u8 15), .lit (.int .u8 34), .lit (.int .u8 20), .lit (.int .u8 31), .lit (.int .u8 10), .lit (.int .u8 25), .lit (.int .u8 14), .lit (.int .u8 19), .lit (.int .u8 9), .lit (.int .u8 13), .lit (.int .u8 8), .lit (.int .u8 7), .lit (.int .u8 6)]
def laid_internal_strconv_uint64pow10 {H : Type} : DataW H := .agg [.lit (.int .u64 1), .lit (.int .u64 10), .lit (.int .u64 100), .lit (.int .u64 1000), .lit (.int .u64 10000), .lit (.int .u64 100000), .lit (.int .u64 1000000), .lit (.int .u64 10000000), .lit (.int .u64 100000000), .lit (.int .u64 1000000000), .lit (.int .u64 10000000000), .lit (.int .u64 100000000000), .lit (.int .u64 1000000000000), .lit (.int .u64 10000000000000), .lit (.int .u64 100000000000000), .lit (.int .u64 1000000000000000), .lit (.int .u64 10000000000000000), .lit (.int .u64 100000000000000000), .lit (.int .u64 1000000000000000000), .lit (.int .u64 10000000000000000000)]
def laid_unicode_utf8_acceptRanges {H : Type} : DataW H := .agg [.agg [.lit (.int .u8 128), .lit (.int .u8 191)], .agg [.lit (.int .u8 160), .lit (.int .u8 191)], .agg [.lit (.int .u8 128), .lit (.int .u8 159)], .agg [.lit (.int .u8 144), .lit (.int .u8 191)], .agg [.lit (.int .u8 128), .lit (.int .u8 143)], .agg [.lit (.int .u8 0), .lit (.int .u8 0)], .agg [.lit (.int .u8 0), .lit (.int .u8 0)], .agg [.lit (.int .u8 0), .lit (.int .u8 0)], .agg [.lit (.int .u8 0), .lit (.int .u8 0)], .agg [.lit (.int .u8 0), .lit (.int .u8 0)], .agg [.lit (.int .u8 0), .lit (.int .u8 0)], .agg [.lit (.int .u8 0), .lit (.int .u8 0)], .agg [.lit (.int .u8 0), .lit (.int .u8 0)], .agg [.lit (.int .u8 0), .lit (.int .u8 0)], .agg [.lit (.int .u8 0), .lit (.int .u8 0)], .agg [.lit (.int .u8 0), .lit (.int .u8 0)]]
def laid_strconv_ErrRange {H : Type} : DataW H := .iface "*errors.errorString" (.ptr (.agg [.lit (.string [118, 97, 108, 117, 101, 32, 111, 117, 116, 32, 111, 102, 32, 114, 97, 110, 103, 101])]))
def laid_strconv_ErrSyntax {H : Type} : DataW H := .iface "*errors.errorString" (.ptr (.agg [.lit (.string [105, 110, 118, 97, 108, 105, 100, 32, 115, 121, 110, 116, 97, 120])]))
/-- One of Go's own tables, pinned by name: the form's constant. -/
def laid_unicode_utf8_first : DataW Unit := Go.Pinned.utf8First

/-- 'bonehouselaw02.FindsCheckSpec': WHATEVER THE INPUT: true; the input reads as it did. -/
def findsCheckSpecSpec : ChangeSpec := { name := "findsCheckSpec", fn := fun _ => fun
  | [d1, d2] => { results := [.lit (.bool true)], args := [d1, d2] }
  | _ => none }
def findsCheckSpecRow : OpenClaim := { program := "ytilfiadkhohfiaagreatdoor", sum := "28dd8e8db219f83a025e1cdd1d5938c42d08f4e2362b628d117ed05fe44f0998", func := "bonehouse/bonehouselaw02.FindsCheckSpec", spec := "findsCheckSpec", inPlace := ["internal/abi.NoEscape", "internal/bytealg.MakeNoZero"], unfollowed := true, recurses := true, named := ["math/bits.deBruijn64tab", "internal/strconv.uint64pow10", "math/bits.deBruijn32tab"], apart := false, laid := [("math/bits.deBruijn32tab", laid_math_bits_deBruijn32tab), ("math/bits.deBruijn64tab", laid_math_bits_deBruijn64tab), ("internal/strconv.uint64pow10", laid_internal_strconv_uint64pow10)] }
def FindsCheckSpecSaid : Prop := findsCheckSpecRow.holds Tryz.pinned (OpenSpec.ofChange findsCheckSpecSpec)

/-- ITS FALSE NEIGHBOUR: 'it returns false'. Refute it at one input. -/
def findsCheckSpecWrong : ChangeSpec := { name := "findsCheckSpec", fn := fun _ => fun
  | [d1, d2] => { results := [.lit (.bool false)], args := [d1, d2] }
  | _ => none }
def FindsCheckSpecWrongFalsely : Prop := findsCheckSpecRow.holds Tryz.pinned (OpenSpec.ofChange findsCheckSpecWrong)

/-- 'bonehouselaw02.FindsEnterSpec': WHATEVER THE INPUT: true; the input reads as it did. -/
def findsEnterSpecSpec : ChangeSpec := { name := "findsEnterSpec", fn := fun _ => fun
  | [d1, d2] => { results := [.lit (.bool true)], args := [d1, d2] }
  | _ => none }
def findsEnterSpecRow : OpenClaim := { program := "ytilfiadkhohfiaagreatdoor", sum := "28dd8e8db219f83a025e1cdd1d5938c42d08f4e2362b628d117ed05fe44f0998", func := "bonehouse/bonehouselaw02.FindsEnterSpec", spec := "findsEnterSpec", inPlace := ["internal/abi.NoEscape", "internal/bytealg.MakeNoZero"], unfollowed := true, recurses := true, named := ["math/bits.deBruijn64tab", "internal/strconv.uint64pow10", "math/bits.deBruijn32tab"], apart := false, laid := [("math/bits.deBruijn32tab", laid_math_bits_deBruijn32tab), ("math/bits.deBruijn64tab", laid_math_bits_deBruijn64tab), ("internal/strconv.uint64pow10", laid_internal_strconv_uint64pow10)] }
def FindsEnterSpecSaid : Prop := findsEnterSpecRow.holds Tryz.pinned (OpenSpec.ofChange findsEnterSpecSpec)

/-- ITS FALSE NEIGHBOUR: 'it returns false'. Refute it at one input. -/
def findsEnterSpecWrong : ChangeSpec := { name := "findsEnterSpec", fn := fun _ => fun
  | [d1, d2] => { results := [.lit (.bool false)], args := [d1, d2] }
  | _ => none }
def FindsEnterSpecWrongFalsely : Prop := findsEnterSpecRow.holds Tryz.pinned (OpenSpec.ofChange findsEnterSpecWrong)

/-- 'bonehouselaw02.FindsAtSpec': WHATEVER THE INPUT: true; the input reads as it did. -/
def findsAtSpecSpec : ChangeSpec := { name := "findsAtSpec", fn := fun _ => fun
  | [d1, d2, d3] => { results := [.lit (.bool true)], args := [d1, d2, d3] }
  | _ => none }
def findsAtSpecRow : OpenClaim := { program := "ytilfiadkhohfiaagreatdoor", sum := "28dd8e8db219f83a025e1cdd1d5938c42d08f4e2362b628d117ed05fe44f0998", func := "bonehouse/bonehouselaw02.FindsAtSpec", spec := "findsAtSpec", inPlace := ["internal/abi.NoEscape", "internal/bytealg.MakeNoZero"], unfollowed := true, recurses := true, named := ["math/bits.deBruijn64tab", "internal/strconv.uint64pow10", "math/bits.deBruijn32tab"], apart := false, laid := [("math/bits.deBruijn32tab", laid_math_bits_deBruijn32tab), ("math/bits.deBruijn64tab", laid_math_bits_deBruijn64tab), ("internal/strconv.uint64pow10", laid_internal_strconv_uint64pow10)] }
def FindsAtSpecSaid : Prop := findsAtSpecRow.holds Tryz.pinned (OpenSpec.ofChange findsAtSpecSpec)

/-- ITS FALSE NEIGHBOUR: 'it returns false'. Refute it at one input. -/
def findsAtSpecWrong : ChangeSpec := { name := "findsAtSpec", fn := fun _ => fun
  | [d1, d2, d3] => { results := [.lit (.bool false)], args := [d1, d2, d3] }
  | _ => none }
def FindsAtSpecWrongFalsely : Prop := findsAtSpecRow.holds Tryz.pinned (OpenSpec.ofChange findsAtSpecWrong)

/-- 'bonehouselaw02.FindsPartsSpec': WHATEVER THE INPUT: true; the input reads as it did. -/
def findsPartsSpecSpec : ChangeSpec := { name := "findsPartsSpec", fn := fun _ => fun
  | [d1, d2, d3] => { results := [.lit (.bool true)], args := [d1, d2, d3] }
  | _ => none }
def findsPartsSpecRow : OpenClaim := { program := "ytilfiadkhohfiaagreatdoor", sum := "28dd8e8db219f83a025e1cdd1d5938c42d08f4e2362b628d117ed05fe44f0998", func := "bonehouse/bonehouselaw02.FindsPartsSpec", spec := "findsPartsSpec", inPlace := ["internal/abi.NoEscape", "internal/bytealg.MakeNoZero"], unfollowed := true, recurses := true, named := ["math/bits.deBruijn64tab", "internal/strconv.uint64pow10", "math/bits.deBruijn32tab"], apart := false, laid := [("math/bits.deBruijn32tab", laid_math_bits_deBruijn32tab), ("math/bits.deBruijn64tab", laid_math_bits_deBruijn64tab), ("internal/strconv.uint64pow10", laid_internal_strconv_uint64pow10)] }
def FindsPartsSpecSaid : Prop := findsPartsSpecRow.holds Tryz.pinned (OpenSpec.ofChange findsPartsSpecSpec)

/-- ITS FALSE NEIGHBOUR: 'it returns false'. Refute it at one input. -/
def findsPartsSpecWrong : ChangeSpec := { name := "findsPartsSpec", fn := fun _ => fun
  | [d1, d2, d3] => { results := [.lit (.bool false)], args := [d1, d2, d3] }
  | _ => none }
def FindsPartsSpecWrongFalsely : Prop := findsPartsSpecRow.holds Tryz.pinned (OpenSpec.ofChange findsPartsSpecWrong)

/-- 'bonehouselaw02.FindsLineageSpec': WHATEVER THE INPUT: true; the input reads as it did. -/
def findsLineageSpecSpec : ChangeSpec := { name := "findsLineageSpec", fn := fun _ => fun
  | [d1, d2, d3, d4, d5] => { results := [.lit (.bool true)], args := [d1, d2, d3, d4, d5] }
  | _ => none }
def findsLineageSpecRow : OpenClaim := { program := "ytilfiadkhohfiaagreatdoor", sum := "28dd8e8db219f83a025e1cdd1d5938c42d08f4e2362b628d117ed05fe44f0998", func := "bonehouse/bonehouselaw02.FindsLineageSpec", spec := "findsLineageSpec", inPlace := ["internal/abi.NoEscape", "internal/bytealg.MakeNoZero"], unfollowed := true, recurses := true, named := ["math/bits.deBruijn64tab", "internal/strconv.uint64pow10", "math/bits.deBruijn32tab"], apart := false, laid := [("math/bits.deBruijn32tab", laid_math_bits_deBruijn32tab), ("math/bits.deBruijn64tab", laid_math_bits_deBruijn64tab), ("internal/strconv.uint64pow10", laid_internal_strconv_uint64pow10)] }
def FindsLineageSpecSaid : Prop := findsLineageSpecRow.holds Tryz.pinned (OpenSpec.ofChange findsLineageSpecSpec)

/-- ITS FALSE NEIGHBOUR: 'it returns false'. Refute it at one input. -/
def findsLineageSpecWrong : ChangeSpec := { name := "findsLineageSpec", fn := fun _ => fun
  | [d1, d2, d3, d4, d5] => { results := [.lit (.bool false)], args := [d1, d2, d3, d4, d5] }
  | _ => none }
def FindsLineageSpecWrongFalsely : Prop := findsLineageSpecRow.holds Tryz.pinned (OpenSpec.ofChange findsLineageSpecWrong)

/-- 'bonehouselaw02.FindsJoinedSpec': WHATEVER THE INPUT: true; the input reads as it did. -/
def findsJoinedSpecSpec : ChangeSpec := { name := "findsJoinedSpec", fn := fun _ => fun
  | [d1, d2, d3] => { results := [.lit (.bool true)], args := [d1, d2, d3] }
  | _ => none }
def findsJoinedSpecRow : OpenClaim := { program := "ytilfiadkhohfiaagreatdoor", sum := "28dd8e8db219f83a025e1cdd1d5938c42d08f4e2362b628d117ed05fe44f0998", func := "bonehouse/bonehouselaw02.FindsJoinedSpec", spec := "findsJoinedSpec", inPlace := ["internal/abi.NoEscape", "internal/bytealg.MakeNoZero"], unfollowed := true, recurses := true, named := ["math/bits.deBruijn64tab", "internal/strconv.uint64pow10", "math/bits.deBruijn32tab"], apart := false, laid := [("math/bits.deBruijn32tab", laid_math_bits_deBruijn32tab), ("math/bits.deBruijn64tab", laid_math_bits_deBruijn64tab), ("internal/strconv.uint64pow10", laid_internal_strconv_uint64pow10)] }
def FindsJoinedSpecSaid : Prop := findsJoinedSpecRow.holds Tryz.pinned (OpenSpec.ofChange findsJoinedSpecSpec)

/-- ITS FALSE NEIGHBOUR: 'it returns false'. Refute it at one input. -/
def findsJoinedSpecWrong : ChangeSpec := { name := "findsJoinedSpec", fn := fun _ => fun
  | [d1, d2, d3] => { results := [.lit (.bool false)], args := [d1, d2, d3] }
  | _ => none }
def FindsJoinedSpecWrongFalsely : Prop := findsJoinedSpecRow.holds Tryz.pinned (OpenSpec.ofChange findsJoinedSpecWrong)

/-- 'bonehouselaw02.FindsTexts': WHATEVER THE INPUT: true; the input reads as it did. -/
def findsTextsSpec : ChangeSpec := { name := "findsTexts", fn := fun _ => fun
  | [d1, d2, d3] => { results := [.lit (.bool true)], args := [d1, d2, d3] }
  | _ => none }
def findsTextsRow : OpenClaim := { program := "ytilfiadkhohfiaagreatdoor", sum := "28dd8e8db219f83a025e1cdd1d5938c42d08f4e2362b628d117ed05fe44f0998", func := "bonehouse/bonehouselaw02.FindsTexts", spec := "findsTexts", inPlace := ["internal/abi.NoEscape", "internal/bytealg.MakeNoZero", "internal/bytealg.CountString", "internal/bytealg.IndexByteString", "internal/bytealg.IndexString"], unfollowed := true, recurses := true, named := ["math/bits.deBruijn64tab", "internal/strconv.uint64pow10", "math/bits.deBruijn32tab", "unicode/utf8.first", "unicode/utf8.acceptRanges", "internal/bytealg.MaxLen", "strconv.ErrSyntax", "strconv.ErrRange"], apart := false, laid := [("math/bits.deBruijn32tab", laid_math_bits_deBruijn32tab), ("math/bits.deBruijn64tab", laid_math_bits_deBruijn64tab), ("internal/strconv.uint64pow10", laid_internal_strconv_uint64pow10), ("unicode/utf8.acceptRanges", laid_unicode_utf8_acceptRanges), ("strconv.ErrRange", laid_strconv_ErrRange), ("strconv.ErrSyntax", laid_strconv_ErrSyntax), ("unicode/utf8.first", laid_unicode_utf8_first)] }
def FindsTextsSaid : Prop := findsTextsRow.holds Tryz.pinned (OpenSpec.ofChange findsTextsSpec)

/-- ITS FALSE NEIGHBOUR: 'it returns false'. Refute it at one input. -/
def findsTextsWrong : ChangeSpec := { name := "findsTexts", fn := fun _ => fun
  | [d1, d2, d3] => { results := [.lit (.bool false)], args := [d1, d2, d3] }
  | _ => none }
def FindsTextsWrongFalsely : Prop := findsTextsRow.holds Tryz.pinned (OpenSpec.ofChange findsTextsWrong)

/-- 'bonehouselaw02.FindsUntouched': WHATEVER THE INPUT: true; the input reads as it did. -/
def findsUntouchedSpec : ChangeSpec := { name := "findsUntouched", fn := fun _ => fun
  | [d1, d2, d3] => { results := [.lit (.bool true)], args := [d1, d2, d3] }
  | _ => none }
def findsUntouchedRow : OpenClaim := { program := "ytilfiadkhohfiaagreatdoor", sum := "28dd8e8db219f83a025e1cdd1d5938c42d08f4e2362b628d117ed05fe44f0998", func := "bonehouse/bonehouselaw02.FindsUntouched", spec := "findsUntouched", inPlace := ["internal/abi.NoEscape", "internal/bytealg.MakeNoZero"], unfollowed := true, recurses := true, named := ["math/bits.deBruijn64tab", "internal/strconv.uint64pow10", "math/bits.deBruijn32tab"], apart := false, laid := [("math/bits.deBruijn32tab", laid_math_bits_deBruijn32tab), ("math/bits.deBruijn64tab", laid_math_bits_deBruijn64tab), ("internal/strconv.uint64pow10", laid_internal_strconv_uint64pow10)] }
def FindsUntouchedSaid : Prop := findsUntouchedRow.holds Tryz.pinned (OpenSpec.ofChange findsUntouchedSpec)

/-- ITS FALSE NEIGHBOUR: 'it returns false'. Refute it at one input. -/
def findsUntouchedWrong : ChangeSpec := { name := "findsUntouched", fn := fun _ => fun
  | [d1, d2, d3] => { results := [.lit (.bool false)], args := [d1, d2, d3] }
  | _ => none }
def FindsUntouchedWrongFalsely : Prop := findsUntouchedRow.holds Tryz.pinned (OpenSpec.ofChange findsUntouchedWrong)

/-- 'bonehouselaw02.FindsSplit': WHATEVER THE INPUT: true; the input reads as it did. -/
def findsSplitSpec : ChangeSpec := { name := "findsSplit", fn := fun _ => fun
  | [d1, d2, d3, d4] => { results := [.lit (.bool true)], args := [d1, d2, d3, d4] }
  | _ => none }
def findsSplitRow : OpenClaim := { program := "ytilfiadkhohfiaagreatdoor", sum := "28dd8e8db219f83a025e1cdd1d5938c42d08f4e2362b628d117ed05fe44f0998", func := "bonehouse/bonehouselaw02.FindsSplit", spec := "findsSplit", inPlace := ["internal/abi.NoEscape", "internal/bytealg.MakeNoZero"], unfollowed := true, recurses := true, named := ["math/bits.deBruijn64tab", "internal/strconv.uint64pow10", "math/bits.deBruijn32tab"], apart := false, laid := [("math/bits.deBruijn32tab", laid_math_bits_deBruijn32tab), ("math/bits.deBruijn64tab", laid_math_bits_deBruijn64tab), ("internal/strconv.uint64pow10", laid_internal_strconv_uint64pow10)] }
def FindsSplitSaid : Prop := findsSplitRow.holds Tryz.pinned (OpenSpec.ofChange findsSplitSpec)

/-- ITS FALSE NEIGHBOUR: 'it returns false'. Refute it at one input. -/
def findsSplitWrong : ChangeSpec := { name := "findsSplit", fn := fun _ => fun
  | [d1, d2, d3, d4] => { results := [.lit (.bool false)], args := [d1, d2, d3, d4] }
  | _ => none }
def FindsSplitWrongFalsely : Prop := findsSplitRow.holds Tryz.pinned (OpenSpec.ofChange findsSplitWrong)

/-- 'bonehouselaw02.FindsLeaves': WHATEVER THE INPUT: true; the input reads as it did. -/
def findsLeavesSpec : ChangeSpec := { name := "findsLeaves", fn := fun _ => fun
  | [d1, d2] => { results := [.lit (.bool true)], args := [d1, d2] }
  | _ => none }
def findsLeavesRow : OpenClaim := { program := "ytilfiadkhohfiaagreatdoor", sum := "28dd8e8db219f83a025e1cdd1d5938c42d08f4e2362b628d117ed05fe44f0998", func := "bonehouse/bonehouselaw02.FindsLeaves", spec := "findsLeaves", inPlace := ["internal/abi.NoEscape", "internal/bytealg.MakeNoZero"], unfollowed := true, recurses := true, named := ["math/bits.deBruijn64tab", "internal/strconv.uint64pow10", "math/bits.deBruijn32tab"], apart := false, laid := [("math/bits.deBruijn32tab", laid_math_bits_deBruijn32tab), ("math/bits.deBruijn64tab", laid_math_bits_deBruijn64tab), ("internal/strconv.uint64pow10", laid_internal_strconv_uint64pow10)] }
def FindsLeavesSaid : Prop := findsLeavesRow.holds Tryz.pinned (OpenSpec.ofChange findsLeavesSpec)

/-- ITS FALSE NEIGHBOUR: 'it returns false'. Refute it at one input. -/
def findsLeavesWrong : ChangeSpec := { name := "findsLeaves", fn := fun _ => fun
  | [d1, d2] => { results := [.lit (.bool false)], args := [d1, d2] }
  | _ => none }
def FindsLeavesWrongFalsely : Prop := findsLeavesRow.holds Tryz.pinned (OpenSpec.ofChange findsLeavesWrong)

/-- 'bonehouselaw02.FindsKnown': WHATEVER THE INPUT: true; the input reads as it did. -/
def findsKnownSpec : ChangeSpec := { name := "findsKnown", fn := fun _ => fun
  | [d1, d2, d3, d4] => { results := [.lit (.bool true)], args := [d1, d2, d3, d4] }
  | _ => none }
def findsKnownRow : OpenClaim := { program := "ytilfiadkhohfiaagreatdoor", sum := "28dd8e8db219f83a025e1cdd1d5938c42d08f4e2362b628d117ed05fe44f0998", func := "bonehouse/bonehouselaw02.FindsKnown", spec := "findsKnown", inPlace := ["internal/abi.NoEscape", "internal/bytealg.MakeNoZero"], unfollowed := true, recurses := true, named := ["math/bits.deBruijn64tab", "internal/strconv.uint64pow10", "math/bits.deBruijn32tab"], apart := false, laid := [("math/bits.deBruijn32tab", laid_math_bits_deBruijn32tab), ("math/bits.deBruijn64tab", laid_math_bits_deBruijn64tab), ("internal/strconv.uint64pow10", laid_internal_strconv_uint64pow10)] }
def FindsKnownSaid : Prop := findsKnownRow.holds Tryz.pinned (OpenSpec.ofChange findsKnownSpec)

/-- ITS FALSE NEIGHBOUR: 'it returns false'. Refute it at one input. -/
def findsKnownWrong : ChangeSpec := { name := "findsKnown", fn := fun _ => fun
  | [d1, d2, d3, d4] => { results := [.lit (.bool false)], args := [d1, d2, d3, d4] }
  | _ => none }
def FindsKnownWrongFalsely : Prop := findsKnownRow.holds Tryz.pinned (OpenSpec.ofChange findsKnownWrong)

/-- 'bonehouselaw02.FindsJoined': WHATEVER THE INPUT: true; the input reads as it did. -/
def findsJoinedSpec : ChangeSpec := { name := "findsJoined", fn := fun _ => fun
  | [d1, d2, d3] => { results := [.lit (.bool true)], args := [d1, d2, d3] }
  | _ => none }
def findsJoinedRow : OpenClaim := { program := "ytilfiadkhohfiaagreatdoor", sum := "28dd8e8db219f83a025e1cdd1d5938c42d08f4e2362b628d117ed05fe44f0998", func := "bonehouse/bonehouselaw02.FindsJoined", spec := "findsJoined", inPlace := ["internal/abi.NoEscape", "internal/bytealg.MakeNoZero"], unfollowed := true, recurses := true, named := ["math/bits.deBruijn64tab", "internal/strconv.uint64pow10", "math/bits.deBruijn32tab"], apart := false, laid := [("math/bits.deBruijn32tab", laid_math_bits_deBruijn32tab), ("math/bits.deBruijn64tab", laid_math_bits_deBruijn64tab), ("internal/strconv.uint64pow10", laid_internal_strconv_uint64pow10)] }
def FindsJoinedSaid : Prop := findsJoinedRow.holds Tryz.pinned (OpenSpec.ofChange findsJoinedSpec)

/-- ITS FALSE NEIGHBOUR: 'it returns false'. Refute it at one input. -/
def findsJoinedWrong : ChangeSpec := { name := "findsJoined", fn := fun _ => fun
  | [d1, d2, d3] => { results := [.lit (.bool false)], args := [d1, d2, d3] }
  | _ => none }
def FindsJoinedWrongFalsely : Prop := findsJoinedRow.holds Tryz.pinned (OpenSpec.ofChange findsJoinedWrong)

/-- 'bonehouselaw02.FindsOverlap': WHATEVER THE INPUT: true; the input reads as it did. -/
def findsOverlapSpec : ChangeSpec := { name := "findsOverlap", fn := fun _ => fun
  | [d1, d2, d3] => { results := [.lit (.bool true)], args := [d1, d2, d3] }
  | _ => none }
def findsOverlapRow : OpenClaim := { program := "ytilfiadkhohfiaagreatdoor", sum := "28dd8e8db219f83a025e1cdd1d5938c42d08f4e2362b628d117ed05fe44f0998", func := "bonehouse/bonehouselaw02.FindsOverlap", spec := "findsOverlap", inPlace := ["internal/abi.NoEscape", "internal/bytealg.MakeNoZero"], unfollowed := true, recurses := true, named := ["math/bits.deBruijn64tab", "internal/strconv.uint64pow10", "math/bits.deBruijn32tab"], apart := false, laid := [("math/bits.deBruijn32tab", laid_math_bits_deBruijn32tab), ("math/bits.deBruijn64tab", laid_math_bits_deBruijn64tab), ("internal/strconv.uint64pow10", laid_internal_strconv_uint64pow10)] }
def FindsOverlapSaid : Prop := findsOverlapRow.holds Tryz.pinned (OpenSpec.ofChange findsOverlapSpec)

/-- ITS FALSE NEIGHBOUR: 'it returns false'. Refute it at one input. -/
def findsOverlapWrong : ChangeSpec := { name := "findsOverlap", fn := fun _ => fun
  | [d1, d2, d3] => { results := [.lit (.bool false)], args := [d1, d2, d3] }
  | _ => none }
def FindsOverlapWrongFalsely : Prop := findsOverlapRow.holds Tryz.pinned (OpenSpec.ofChange findsOverlapWrong)

/-- 'bonehouselaw02.FindsApart': WHATEVER THE INPUT: true; the input reads as it did. -/
def findsApartSpec : ChangeSpec := { name := "findsApart", fn := fun _ => fun
  | [d1, d2] => { results := [.lit (.bool true)], args := [d1, d2] }
  | _ => none }
def findsApartRow : OpenClaim := { program := "ytilfiadkhohfiaagreatdoor", sum := "28dd8e8db219f83a025e1cdd1d5938c42d08f4e2362b628d117ed05fe44f0998", func := "bonehouse/bonehouselaw02.FindsApart", spec := "findsApart", inPlace := ["internal/abi.NoEscape", "internal/bytealg.MakeNoZero"], unfollowed := true, recurses := true, named := ["math/bits.deBruijn64tab", "internal/strconv.uint64pow10", "math/bits.deBruijn32tab"], apart := false, laid := [("math/bits.deBruijn32tab", laid_math_bits_deBruijn32tab), ("math/bits.deBruijn64tab", laid_math_bits_deBruijn64tab), ("internal/strconv.uint64pow10", laid_internal_strconv_uint64pow10)] }
def FindsApartSaid : Prop := findsApartRow.holds Tryz.pinned (OpenSpec.ofChange findsApartSpec)

/-- ITS FALSE NEIGHBOUR: 'it returns false'. Refute it at one input. -/
def findsApartWrong : ChangeSpec := { name := "findsApart", fn := fun _ => fun
  | [d1, d2] => { results := [.lit (.bool false)], args := [d1, d2] }
  | _ => none }
def FindsApartWrongFalsely : Prop := findsApartRow.holds Tryz.pinned (OpenSpec.ofChange findsApartWrong)

/-- 'bonehouselaw02.FindsDeeds': WHATEVER THE INPUT: true; the input reads as it did. -/
def findsDeedsSpec : ChangeSpec := { name := "findsDeeds", fn := fun _ => fun
  | [d1, d2] => { results := [.lit (.bool true)], args := [d1, d2] }
  | _ => none }
def findsDeedsRow : OpenClaim := { program := "ytilfiadkhohfiaagreatdoor", sum := "28dd8e8db219f83a025e1cdd1d5938c42d08f4e2362b628d117ed05fe44f0998", func := "bonehouse/bonehouselaw02.FindsDeeds", spec := "findsDeeds", inPlace := ["internal/abi.NoEscape", "internal/bytealg.MakeNoZero"], unfollowed := true, recurses := true, named := ["math/bits.deBruijn64tab", "internal/strconv.uint64pow10", "math/bits.deBruijn32tab"], apart := false, laid := [("math/bits.deBruijn32tab", laid_math_bits_deBruijn32tab), ("math/bits.deBruijn64tab", laid_math_bits_deBruijn64tab), ("internal/strconv.uint64pow10", laid_internal_strconv_uint64pow10)] }
def FindsDeedsSaid : Prop := findsDeedsRow.holds Tryz.pinned (OpenSpec.ofChange findsDeedsSpec)

/-- ITS FALSE NEIGHBOUR: 'it returns false'. Refute it at one input. -/
def findsDeedsWrong : ChangeSpec := { name := "findsDeeds", fn := fun _ => fun
  | [d1, d2] => { results := [.lit (.bool false)], args := [d1, d2] }
  | _ => none }
def FindsDeedsWrongFalsely : Prop := findsDeedsRow.holds Tryz.pinned (OpenSpec.ofChange findsDeedsWrong)

/- THE SECOND FORM. 'bulk': how many values and letters a reading holds, each counted each time it is reached (what is shared counts as often as it is met; a slice's spare places count too). A statement '..UptoSaid' is the law's where the arguments, and the package variables that the reading takes, are together of bulk at most 1048576: NARROWER than '..Said'. Prove '..Said' where nothing that the law and all that it calls make is longer than what came in: it says more and counts as full. Else prove '..UptoSaid'. A law counts once. -/
mutual
def uptoBulk {H : Type} : DataW H → Nat
  | .lit (.string bytes) => bytes.length + 1
  | .lit _ => 1
  | .nil => 1
  | .ptr d => uptoBulk d + 1
  | .slice elems spare => uptoBulkAll elems + uptoBulkAll spare + 1
  | .agg parts => uptoBulkAll parts + 1
  | .iface _ d => uptoBulk d + 1
  | .map entries => uptoBulkEntries entries + 1
  | .held _ => 1
def uptoBulkAll {H : Type} : List (DataW H) → Nat
  | [] => 0
  | d :: r => uptoBulk d + uptoBulkAll r
def uptoBulkEntries {H : Type} : List (Lit × DataW H) → Nat
  | [] => 0
  | x :: r => uptoBulkEntry x + uptoBulkEntries r
def uptoBulkEntry {H : Type} : Lit × DataW H → Nat
  | (.string bytes, d) => bytes.length + uptoBulk d + 1
  | (_, d) => uptoBulk d + 1
 end
def uptoSmall : (H : Type) → List (DataW H) → Bool := fun _ ds => decide (uptoBulkAll ds ≤ 1048576)
def OpenSpec.upto (s : _root_.Go.ChangeSpec) : _root_.Go.OpenSpec := { _root_.Go.OpenSpec.ofChange s with cond := some uptoSmall }

/-- 'bonehouselaw02.FindsCheckSpec', WHERE WHAT IT READS IS OF BULK AT MOST 1048576: true; the input reads as it did. -/
def findsCheckSpecUptoRow : OpenClaim := { program := "ytilfiadkhohfiaagreatdoor", sum := "28dd8e8db219f83a025e1cdd1d5938c42d08f4e2362b628d117ed05fe44f0998", func := "bonehouse/bonehouselaw02.FindsCheckSpec", spec := "findsCheckSpec", inPlace := ["internal/abi.NoEscape", "internal/bytealg.MakeNoZero"], unfollowed := true, recurses := true, named := ["math/bits.deBruijn64tab", "internal/strconv.uint64pow10", "math/bits.deBruijn32tab"], apart := false, laid := [("math/bits.deBruijn32tab", laid_math_bits_deBruijn32tab), ("math/bits.deBruijn64tab", laid_math_bits_deBruijn64tab), ("internal/strconv.uint64pow10", laid_internal_strconv_uint64pow10)], narrowed := true }
def FindsCheckSpecUptoSaid : Prop := findsCheckSpecUptoRow.holds Tryz.pinned (OpenSpec.upto findsCheckSpecSpec)

/-- 'bonehouselaw02.FindsEnterSpec', WHERE WHAT IT READS IS OF BULK AT MOST 1048576: true; the input reads as it did. -/
def findsEnterSpecUptoRow : OpenClaim := { program := "ytilfiadkhohfiaagreatdoor", sum := "28dd8e8db219f83a025e1cdd1d5938c42d08f4e2362b628d117ed05fe44f0998", func := "bonehouse/bonehouselaw02.FindsEnterSpec", spec := "findsEnterSpec", inPlace := ["internal/abi.NoEscape", "internal/bytealg.MakeNoZero"], unfollowed := true, recurses := true, named := ["math/bits.deBruijn64tab", "internal/strconv.uint64pow10", "math/bits.deBruijn32tab"], apart := false, laid := [("math/bits.deBruijn32tab", laid_math_bits_deBruijn32tab), ("math/bits.deBruijn64tab", laid_math_bits_deBruijn64tab), ("internal/strconv.uint64pow10", laid_internal_strconv_uint64pow10)], narrowed := true }
def FindsEnterSpecUptoSaid : Prop := findsEnterSpecUptoRow.holds Tryz.pinned (OpenSpec.upto findsEnterSpecSpec)

/-- 'bonehouselaw02.FindsAtSpec', WHERE WHAT IT READS IS OF BULK AT MOST 1048576: true; the input reads as it did. -/
def findsAtSpecUptoRow : OpenClaim := { program := "ytilfiadkhohfiaagreatdoor", sum := "28dd8e8db219f83a025e1cdd1d5938c42d08f4e2362b628d117ed05fe44f0998", func := "bonehouse/bonehouselaw02.FindsAtSpec", spec := "findsAtSpec", inPlace := ["internal/abi.NoEscape", "internal/bytealg.MakeNoZero"], unfollowed := true, recurses := true, named := ["math/bits.deBruijn64tab", "internal/strconv.uint64pow10", "math/bits.deBruijn32tab"], apart := false, laid := [("math/bits.deBruijn32tab", laid_math_bits_deBruijn32tab), ("math/bits.deBruijn64tab", laid_math_bits_deBruijn64tab), ("internal/strconv.uint64pow10", laid_internal_strconv_uint64pow10)], narrowed := true }
def FindsAtSpecUptoSaid : Prop := findsAtSpecUptoRow.holds Tryz.pinned (OpenSpec.upto findsAtSpecSpec)

/-- 'bonehouselaw02.FindsPartsSpec', WHERE WHAT IT READS IS OF BULK AT MOST 1048576: true; the input reads as it did. -/
def findsPartsSpecUptoRow : OpenClaim := { program := "ytilfiadkhohfiaagreatdoor", sum := "28dd8e8db219f83a025e1cdd1d5938c42d08f4e2362b628d117ed05fe44f0998", func := "bonehouse/bonehouselaw02.FindsPartsSpec", spec := "findsPartsSpec", inPlace := ["internal/abi.NoEscape", "internal/bytealg.MakeNoZero"], unfollowed := true, recurses := true, named := ["math/bits.deBruijn64tab", "internal/strconv.uint64pow10", "math/bits.deBruijn32tab"], apart := false, laid := [("math/bits.deBruijn32tab", laid_math_bits_deBruijn32tab), ("math/bits.deBruijn64tab", laid_math_bits_deBruijn64tab), ("internal/strconv.uint64pow10", laid_internal_strconv_uint64pow10)], narrowed := true }
def FindsPartsSpecUptoSaid : Prop := findsPartsSpecUptoRow.holds Tryz.pinned (OpenSpec.upto findsPartsSpecSpec)

/-- 'bonehouselaw02.FindsLineageSpec', WHERE WHAT IT READS IS OF BULK AT MOST 1048576: true; the input reads as it did. -/
def findsLineageSpecUptoRow : OpenClaim := { program := "ytilfiadkhohfiaagreatdoor", sum := "28dd8e8db219f83a025e1cdd1d5938c42d08f4e2362b628d117ed05fe44f0998", func := "bonehouse/bonehouselaw02.FindsLineageSpec", spec := "findsLineageSpec", inPlace := ["internal/abi.NoEscape", "internal/bytealg.MakeNoZero"], unfollowed := true, recurses := true, named := ["math/bits.deBruijn64tab", "internal/strconv.uint64pow10", "math/bits.deBruijn32tab"], apart := false, laid := [("math/bits.deBruijn32tab", laid_math_bits_deBruijn32tab), ("math/bits.deBruijn64tab", laid_math_bits_deBruijn64tab), ("internal/strconv.uint64pow10", laid_internal_strconv_uint64pow10)], narrowed := true }
def FindsLineageSpecUptoSaid : Prop := findsLineageSpecUptoRow.holds Tryz.pinned (OpenSpec.upto findsLineageSpecSpec)

/-- 'bonehouselaw02.FindsJoinedSpec', WHERE WHAT IT READS IS OF BULK AT MOST 1048576: true; the input reads as it did. -/
def findsJoinedSpecUptoRow : OpenClaim := { program := "ytilfiadkhohfiaagreatdoor", sum := "28dd8e8db219f83a025e1cdd1d5938c42d08f4e2362b628d117ed05fe44f0998", func := "bonehouse/bonehouselaw02.FindsJoinedSpec", spec := "findsJoinedSpec", inPlace := ["internal/abi.NoEscape", "internal/bytealg.MakeNoZero"], unfollowed := true, recurses := true, named := ["math/bits.deBruijn64tab", "internal/strconv.uint64pow10", "math/bits.deBruijn32tab"], apart := false, laid := [("math/bits.deBruijn32tab", laid_math_bits_deBruijn32tab), ("math/bits.deBruijn64tab", laid_math_bits_deBruijn64tab), ("internal/strconv.uint64pow10", laid_internal_strconv_uint64pow10)], narrowed := true }
def FindsJoinedSpecUptoSaid : Prop := findsJoinedSpecUptoRow.holds Tryz.pinned (OpenSpec.upto findsJoinedSpecSpec)

/-- 'bonehouselaw02.FindsTexts', WHERE WHAT IT READS IS OF BULK AT MOST 1048576: true; the input reads as it did. -/
def findsTextsUptoRow : OpenClaim := { program := "ytilfiadkhohfiaagreatdoor", sum := "28dd8e8db219f83a025e1cdd1d5938c42d08f4e2362b628d117ed05fe44f0998", func := "bonehouse/bonehouselaw02.FindsTexts", spec := "findsTexts", inPlace := ["internal/abi.NoEscape", "internal/bytealg.MakeNoZero", "internal/bytealg.CountString", "internal/bytealg.IndexByteString", "internal/bytealg.IndexString"], unfollowed := true, recurses := true, named := ["math/bits.deBruijn64tab", "internal/strconv.uint64pow10", "math/bits.deBruijn32tab", "unicode/utf8.first", "unicode/utf8.acceptRanges", "internal/bytealg.MaxLen", "strconv.ErrSyntax", "strconv.ErrRange"], apart := false, laid := [("math/bits.deBruijn32tab", laid_math_bits_deBruijn32tab), ("math/bits.deBruijn64tab", laid_math_bits_deBruijn64tab), ("internal/strconv.uint64pow10", laid_internal_strconv_uint64pow10), ("unicode/utf8.acceptRanges", laid_unicode_utf8_acceptRanges), ("strconv.ErrRange", laid_strconv_ErrRange), ("strconv.ErrSyntax", laid_strconv_ErrSyntax), ("unicode/utf8.first", laid_unicode_utf8_first)], narrowed := true }
def FindsTextsUptoSaid : Prop := findsTextsUptoRow.holds Tryz.pinned (OpenSpec.upto findsTextsSpec)

/-- 'bonehouselaw02.FindsUntouched', WHERE WHAT IT READS IS OF BULK AT MOST 1048576: true; the input reads as it did. -/
def findsUntouchedUptoRow : OpenClaim := { program := "ytilfiadkhohfiaagreatdoor", sum := "28dd8e8db219f83a025e1cdd1d5938c42d08f4e2362b628d117ed05fe44f0998", func := "bonehouse/bonehouselaw02.FindsUntouched", spec := "findsUntouched", inPlace := ["internal/abi.NoEscape", "internal/bytealg.MakeNoZero"], unfollowed := true, recurses := true, named := ["math/bits.deBruijn64tab", "internal/strconv.uint64pow10", "math/bits.deBruijn32tab"], apart := false, laid := [("math/bits.deBruijn32tab", laid_math_bits_deBruijn32tab), ("math/bits.deBruijn64tab", laid_math_bits_deBruijn64tab), ("internal/strconv.uint64pow10", laid_internal_strconv_uint64pow10)], narrowed := true }
def FindsUntouchedUptoSaid : Prop := findsUntouchedUptoRow.holds Tryz.pinned (OpenSpec.upto findsUntouchedSpec)

/-- 'bonehouselaw02.FindsSplit', WHERE WHAT IT READS IS OF BULK AT MOST 1048576: true; the input reads as it did. -/
def findsSplitUptoRow : OpenClaim := { program := "ytilfiadkhohfiaagreatdoor", sum := "28dd8e8db219f83a025e1cdd1d5938c42d08f4e2362b628d117ed05fe44f0998", func := "bonehouse/bonehouselaw02.FindsSplit", spec := "findsSplit", inPlace := ["internal/abi.NoEscape", "internal/bytealg.MakeNoZero"], unfollowed := true, recurses := true, named := ["math/bits.deBruijn64tab", "internal/strconv.uint64pow10", "math/bits.deBruijn32tab"], apart := false, laid := [("math/bits.deBruijn32tab", laid_math_bits_deBruijn32tab), ("math/bits.deBruijn64tab", laid_math_bits_deBruijn64tab), ("internal/strconv.uint64pow10", laid_internal_strconv_uint64pow10)], narrowed := true }
def FindsSplitUptoSaid : Prop := findsSplitUptoRow.holds Tryz.pinned (OpenSpec.upto findsSplitSpec)

/-- 'bonehouselaw02.FindsLeaves', WHERE WHAT IT READS IS OF BULK AT MOST 1048576: true; the input reads as it did. -/
def findsLeavesUptoRow : OpenClaim := { program := "ytilfiadkhohfiaagreatdoor", sum := "28dd8e8db219f83a025e1cdd1d5938c42d08f4e2362b628d117ed05fe44f0998", func := "bonehouse/bonehouselaw02.FindsLeaves", spec := "findsLeaves", inPlace := ["internal/abi.NoEscape", "internal/bytealg.MakeNoZero"], unfollowed := true, recurses := true, named := ["math/bits.deBruijn64tab", "internal/strconv.uint64pow10", "math/bits.deBruijn32tab"], apart := false, laid := [("math/bits.deBruijn32tab", laid_math_bits_deBruijn32tab), ("math/bits.deBruijn64tab", laid_math_bits_deBruijn64tab), ("internal/strconv.uint64pow10", laid_internal_strconv_uint64pow10)], narrowed := true }
def FindsLeavesUptoSaid : Prop := findsLeavesUptoRow.holds Tryz.pinned (OpenSpec.upto findsLeavesSpec)

/-- 'bonehouselaw02.FindsKnown', WHERE WHAT IT READS IS OF BULK AT MOST 1048576: true; the input reads as it did. -/
def findsKnownUptoRow : OpenClaim := { program := "ytilfiadkhohfiaagreatdoor", sum := "28dd8e8db219f83a025e1cdd1d5938c42d08f4e2362b628d117ed05fe44f0998", func := "bonehouse/bonehouselaw02.FindsKnown", spec := "findsKnown", inPlace := ["internal/abi.NoEscape", "internal/bytealg.MakeNoZero"], unfollowed := true, recurses := true, named := ["math/bits.deBruijn64tab", "internal/strconv.uint64pow10", "math/bits.deBruijn32tab"], apart := false, laid := [("math/bits.deBruijn32tab", laid_math_bits_deBruijn32tab), ("math/bits.deBruijn64tab", laid_math_bits_deBruijn64tab), ("internal/strconv.uint64pow10", laid_internal_strconv_uint64pow10)], narrowed := true }
def FindsKnownUptoSaid : Prop := findsKnownUptoRow.holds Tryz.pinned (OpenSpec.upto findsKnownSpec)

/-- 'bonehouselaw02.FindsJoined', WHERE WHAT IT READS IS OF BULK AT MOST 1048576: true; the input reads as it did. -/
def findsJoinedUptoRow : OpenClaim := { program := "ytilfiadkhohfiaagreatdoor", sum := "28dd8e8db219f83a025e1cdd1d5938c42d08f4e2362b628d117ed05fe44f0998", func := "bonehouse/bonehouselaw02.FindsJoined", spec := "findsJoined", inPlace := ["internal/abi.NoEscape", "internal/bytealg.MakeNoZero"], unfollowed := true, recurses := true, named := ["math/bits.deBruijn64tab", "internal/strconv.uint64pow10", "math/bits.deBruijn32tab"], apart := false, laid := [("math/bits.deBruijn32tab", laid_math_bits_deBruijn32tab), ("math/bits.deBruijn64tab", laid_math_bits_deBruijn64tab), ("internal/strconv.uint64pow10", laid_internal_strconv_uint64pow10)], narrowed := true }
def FindsJoinedUptoSaid : Prop := findsJoinedUptoRow.holds Tryz.pinned (OpenSpec.upto findsJoinedSpec)

/-- 'bonehouselaw02.FindsOverlap', WHERE WHAT IT READS IS OF BULK AT MOST 1048576: true; the input reads as it did. -/
def findsOverlapUptoRow : OpenClaim := { program := "ytilfiadkhohfiaagreatdoor", sum := "28dd8e8db219f83a025e1cdd1d5938c42d08f4e2362b628d117ed05fe44f0998", func := "bonehouse/bonehouselaw02.FindsOverlap", spec := "findsOverlap", inPlace := ["internal/abi.NoEscape", "internal/bytealg.MakeNoZero"], unfollowed := true, recurses := true, named := ["math/bits.deBruijn64tab", "internal/strconv.uint64pow10", "math/bits.deBruijn32tab"], apart := false, laid := [("math/bits.deBruijn32tab", laid_math_bits_deBruijn32tab), ("math/bits.deBruijn64tab", laid_math_bits_deBruijn64tab), ("internal/strconv.uint64pow10", laid_internal_strconv_uint64pow10)], narrowed := true }
def FindsOverlapUptoSaid : Prop := findsOverlapUptoRow.holds Tryz.pinned (OpenSpec.upto findsOverlapSpec)

/-- 'bonehouselaw02.FindsApart', WHERE WHAT IT READS IS OF BULK AT MOST 1048576: true; the input reads as it did. -/
def findsApartUptoRow : OpenClaim := { program := "ytilfiadkhohfiaagreatdoor", sum := "28dd8e8db219f83a025e1cdd1d5938c42d08f4e2362b628d117ed05fe44f0998", func := "bonehouse/bonehouselaw02.FindsApart", spec := "findsApart", inPlace := ["internal/abi.NoEscape", "internal/bytealg.MakeNoZero"], unfollowed := true, recurses := true, named := ["math/bits.deBruijn64tab", "internal/strconv.uint64pow10", "math/bits.deBruijn32tab"], apart := false, laid := [("math/bits.deBruijn32tab", laid_math_bits_deBruijn32tab), ("math/bits.deBruijn64tab", laid_math_bits_deBruijn64tab), ("internal/strconv.uint64pow10", laid_internal_strconv_uint64pow10)], narrowed := true }
def FindsApartUptoSaid : Prop := findsApartUptoRow.holds Tryz.pinned (OpenSpec.upto findsApartSpec)

/-- 'bonehouselaw02.FindsDeeds', WHERE WHAT IT READS IS OF BULK AT MOST 1048576: true; the input reads as it did. -/
def findsDeedsUptoRow : OpenClaim := { program := "ytilfiadkhohfiaagreatdoor", sum := "28dd8e8db219f83a025e1cdd1d5938c42d08f4e2362b628d117ed05fe44f0998", func := "bonehouse/bonehouselaw02.FindsDeeds", spec := "findsDeeds", inPlace := ["internal/abi.NoEscape", "internal/bytealg.MakeNoZero"], unfollowed := true, recurses := true, named := ["math/bits.deBruijn64tab", "internal/strconv.uint64pow10", "math/bits.deBruijn32tab"], apart := false, laid := [("math/bits.deBruijn32tab", laid_math_bits_deBruijn32tab), ("math/bits.deBruijn64tab", laid_math_bits_deBruijn64tab), ("internal/strconv.uint64pow10", laid_internal_strconv_uint64pow10)], narrowed := true }
def FindsDeedsUptoSaid : Prop := findsDeedsUptoRow.holds Tryz.pinned (OpenSpec.upto findsDeedsSpec)

end Rows
end Go.Proofs.YtilfiadkhohfiaaGreatDoor
