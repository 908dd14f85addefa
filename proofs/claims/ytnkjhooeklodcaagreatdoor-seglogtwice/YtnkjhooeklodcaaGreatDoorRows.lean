/-
  NARROWER THAN 'FOR EVERY INPUT', by the rows' own cells (each row's printed sentence says how): SeglogPlays: laid · SeglogKeeps: laid · SeglogTwice: laid · SeglogAnyBytes: laid · SeglogOfNothing: laid · SeglogMany: laid.
  DERIVED. THE GIVEN ROWS OF THIS SEAT. 6 by the template 'for every input the law returns true; each argument reads behind the call as it read before'; 0 by the template 'total and deterministic' (their statements: YtnkjhooeklodcaaGreatDoorTotals.lean).
  GIVEN WITH THE SEED: the statements are not yours to turn. If you find one false, say at which input.
  Laid BY PROGRAM, IN A SANDBOX (cutbox-rows.mjs): the forced cells as the released guide's own fill.sh prints them over the translation 25b4e230ab22d39b… (all of the seat's roots in one cut). By AI agents, Wed Nov 11 2026. No macro, syntax, notation, axiom, sorry.
-/
import Derived.Test.YtnkjhooeklodcaaGreatDoorChecked
import GoSem.PinnedTables
import GoSem.Claim
import GoSem.ClaimJoined
import GoSem.ClaimMapViews
import Derived.JoinedTies
import Derived.KernelRfl
namespace Go.Proofs.YtnkjhooeklodcaaGreatDoor
/- THE CELL 'sum', in the pinned program and in every row, IS THE sha256 OF THE DUMP (.gsa) THAT YtnkjhooeklodcaaGreatDoorProg.lean LOADS. Nothing in Lean hashes anything: it is a label: what it is worth is what the hold of that sum in a sandbox is worth. -/
noncomputable def Tryz.pinned : Pinned := { name := "ytnkjhooeklodcaagreatdoor", sum := "25b4e230ab22d39b244b5568d2376a95066422abfb7a24ff815776f3dc29eb2b", checked := Tryz.checked }
namespace Rows
def none {H : Type} : Left H := { results := [], args := [] }

/- WHAT THE LISTED PACKAGE-LEVEL VARIABLES READ AS WHEN THE CALL BEGINS. Each datum BY PROGRAM (the guide's laid-datum.mjs) off the statement by which the dump's own 'gosem.cut.vars' lays the variable. In a bare row this is a premise. The card (YtnkjhooeklodcaaGreatDoorCards.lean) ties it to the program's text. -/
def laid_math_bits_deBruijn32tab {H : Type} : DataW H := .agg [.lit (.int .u8 0), .lit (.int .u8 1), .lit (.int .u8 28), .lit (.int .u8 2), .lit (.int .u8 29), .lit (.int .u8 14), .lit (.int .u8 24), .lit (.int .u8 3), .lit (.int .u8 30), .lit (.int .u8 22), .lit (.int .u8 20), .lit (.int .u8 15), .lit (.int .u8 25), .lit (.int .u8 17), .lit (.int .u8 4), .lit (.int .u8 8), .lit (.int .u8 31), .lit (.int .u8 27), .lit (.int .u8 13), .lit (.int .u8 23), .lit (.int .u8 21), .lit (.int .u8 19), .lit (.int .u8 16), .lit (.int .u8 7), .lit (.int .u8 26), .lit (.int .u8 12), .lit (.int .u8 18), .lit (.int .u8 6), .lit (.int .u8 11), .lit (.int .u8 5), .lit (.int .u8 10), .lit (.int .u8 9)]
def laid_math_bits_deBruijn64tab {H : Type} : DataW H := .agg [.lit (.int .u8 0), .lit (.int .u8 1), .lit (.int .u8 56), .lit (.int .u8 2), .lit (.int .u8 57), .lit (.int .u8 49), .lit (.int .u8 28), .lit (.int .u8 3), .lit (.int .u8 61), .lit (.int .u8 58), .lit (.int .u8 42), .lit (.int .u8 50), .lit (.int .u8 38), .lit (.int .u8 29), .lit (.int .u8 17), .lit (.int .u8 4), .lit (.int .u8 62), .lit (.int .u8 47), .lit (.int .u8 59), .lit (.int .u8 36), .lit (.int .u8 45), .lit (.int .u8 43), .lit (.int .u8 51), .lit (.int .u8 22), .lit (.int .u8 53), .lit (.int .u8 39), .lit (.int .u8 33), .lit (.int .u8 30), .lit (.int .u8 24), .lit (.int .u8 18), .lit (.int .u8 12), .lit (.int .u8 5), .lit (.int .u8 63), .lit (.int .u8 55), .lit (.int .u8 48), .lit (.int .u8 27), .lit (.int .u8 60), .lit (.int .u8 41), .lit (.int .u8 37), .lit (.int .u8 16), .lit (.int .u8 46), .lit (.int .u8 35), .lit (.int .u8 44), .lit (.int .u8 21), .lit (.int .u8 52), .lit (.int .u8 32), .lit (.int .u8 23), .lit (.int .u8 11), .lit (.int .u8 54), .lit (.int .u8 26), .lit (.int .u8 40), .lit (.int .u8 15), .lit (.int .u8 34), .lit (.int .u8 20), .lit (.int .u8 31), .lit (.int .u8 10), .lit (.int .u8 25), .lit (.int .u8 14), .lit (.int .u8 19), .lit (.int .u8 9), .lit (.int .u8 13), .lit (.int .u8 8), .lit (.int .u8 7), .lit (.int .u8 6)]
def laid_internal_strconv_uint64pow10 {H : Type} : DataW H := .agg [.lit (.int .u64 1), .lit (.int .u64 10), .lit (.int .u64 100), .lit (.int .u64 1000), .lit (.int .u64 10000), .lit (.int .u64 100000), .lit (.int .u64 1000000), .lit (.int .u64 10000000), .lit (.int .u64 100000000), .lit (.int .u64 1000000000), .lit (.int .u64 10000000000), .lit (.int .u64 100000000000), .lit (.int .u64 1000000000000), .lit (.int .u64 10000000000000), .lit (.int .u64 100000000000000), .lit (.int .u64 1000000000000000), .lit (.int .u64 10000000000000000), .lit (.int .u64 100000000000000000), .lit (.int .u64 1000000000000000000), .lit (.int .u64 10000000000000000000)]
def laid_unicode_utf8_acceptRanges {H : Type} : DataW H := .agg [.agg [.lit (.int .u8 128), .lit (.int .u8 191)], .agg [.lit (.int .u8 160), .lit (.int .u8 191)], .agg [.lit (.int .u8 128), .lit (.int .u8 159)], .agg [.lit (.int .u8 144), .lit (.int .u8 191)], .agg [.lit (.int .u8 128), .lit (.int .u8 143)], .agg [.lit (.int .u8 0), .lit (.int .u8 0)], .agg [.lit (.int .u8 0), .lit (.int .u8 0)], .agg [.lit (.int .u8 0), .lit (.int .u8 0)], .agg [.lit (.int .u8 0), .lit (.int .u8 0)], .agg [.lit (.int .u8 0), .lit (.int .u8 0)], .agg [.lit (.int .u8 0), .lit (.int .u8 0)], .agg [.lit (.int .u8 0), .lit (.int .u8 0)], .agg [.lit (.int .u8 0), .lit (.int .u8 0)], .agg [.lit (.int .u8 0), .lit (.int .u8 0)], .agg [.lit (.int .u8 0), .lit (.int .u8 0)], .agg [.lit (.int .u8 0), .lit (.int .u8 0)]]
def laid_gauntlet_octet_sumSteps {H : Type} : DataW H := .agg [.lit (.int .u32 0), .lit (.int .u32 274646895), .lit (.int .u32 549293790), .lit (.int .u32 820201905), .lit (.int .u32 1098587580), .lit (.int .u32 1361435347), .lit (.int .u32 1640403810), .lit (.int .u32 1905808397), .lit (.int .u32 2197175160), .lit (.int .u32 2460548119), .lit (.int .u32 2722870694), .lit (.int .u32 2987750089), .lit (.int .u32 3280807620), .lit (.int .u32 3553878443), .lit (.int .u32 3811616794), .lit (.int .u32 4084100981)]
/-- One of Go's own tables, pinned by name: the form's constant. -/
def laid_unicode_utf8_first : DataW Unit := Go.Pinned.utf8First

/-- 'gauntletlaw5.SeglogPlays': WHATEVER THE INPUT: true; the input reads as it did. -/
def seglogPlaysSpec : ChangeSpec := { name := "seglogPlays", fn := fun _ => fun
  | [d1, d2] => { results := [.lit (.bool true)], args := [d1, d2] }
  | _ => none }
def seglogPlaysRow : OpenClaim := { program := "ytnkjhooeklodcaagreatdoor", sum := "25b4e230ab22d39b244b5568d2376a95066422abfb7a24ff815776f3dc29eb2b", func := "gauntlet/gauntletlaw5.SeglogPlays", spec := "seglogPlays", inPlace := ["internal/bytealg.IndexByteString", "internal/bytealg.IndexString"], unfollowed := true, recurses := true, named := ["unicode/utf8.first", "unicode/utf8.acceptRanges", "internal/strconv.uint64pow10", "math/bits.deBruijn32tab", "math/bits.deBruijn64tab", "gauntlet/octet.sumSteps", "internal/bytealg.MaxLen"], apart := false, laid := [("math/bits.deBruijn32tab", laid_math_bits_deBruijn32tab), ("math/bits.deBruijn64tab", laid_math_bits_deBruijn64tab), ("internal/strconv.uint64pow10", laid_internal_strconv_uint64pow10), ("unicode/utf8.acceptRanges", laid_unicode_utf8_acceptRanges), ("gauntlet/octet.sumSteps", laid_gauntlet_octet_sumSteps), ("unicode/utf8.first", laid_unicode_utf8_first)] }
def SeglogPlaysSaid : Prop := seglogPlaysRow.holds Tryz.pinned (OpenSpec.ofChange seglogPlaysSpec)

/-- ITS FALSE NEIGHBOUR: 'it returns false'. Refute it at one input. -/
def seglogPlaysWrong : ChangeSpec := { name := "seglogPlays", fn := fun _ => fun
  | [d1, d2] => { results := [.lit (.bool false)], args := [d1, d2] }
  | _ => none }
def SeglogPlaysWrongFalsely : Prop := seglogPlaysRow.holds Tryz.pinned (OpenSpec.ofChange seglogPlaysWrong)

/-- 'gauntletlaw5.SeglogKeeps': WHATEVER THE INPUT: true; the input reads as it did. -/
def seglogKeepsSpec : ChangeSpec := { name := "seglogKeeps", fn := fun _ => fun
  | [d1, d2, d3, d4, d5] => { results := [.lit (.bool true)], args := [d1, d2, d3, d4, d5] }
  | _ => none }
def seglogKeepsRow : OpenClaim := { program := "ytnkjhooeklodcaagreatdoor", sum := "25b4e230ab22d39b244b5568d2376a95066422abfb7a24ff815776f3dc29eb2b", func := "gauntlet/gauntletlaw5.SeglogKeeps", spec := "seglogKeeps", inPlace := ["internal/bytealg.IndexByteString", "internal/bytealg.IndexString"], unfollowed := true, recurses := true, named := ["unicode/utf8.first", "unicode/utf8.acceptRanges", "internal/strconv.uint64pow10", "math/bits.deBruijn32tab", "math/bits.deBruijn64tab", "gauntlet/octet.sumSteps", "internal/bytealg.MaxLen"], apart := false, laid := [("math/bits.deBruijn32tab", laid_math_bits_deBruijn32tab), ("math/bits.deBruijn64tab", laid_math_bits_deBruijn64tab), ("internal/strconv.uint64pow10", laid_internal_strconv_uint64pow10), ("unicode/utf8.acceptRanges", laid_unicode_utf8_acceptRanges), ("gauntlet/octet.sumSteps", laid_gauntlet_octet_sumSteps), ("unicode/utf8.first", laid_unicode_utf8_first)] }
def SeglogKeepsSaid : Prop := seglogKeepsRow.holds Tryz.pinned (OpenSpec.ofChange seglogKeepsSpec)

/-- ITS FALSE NEIGHBOUR: 'it returns false'. Refute it at one input. -/
def seglogKeepsWrong : ChangeSpec := { name := "seglogKeeps", fn := fun _ => fun
  | [d1, d2, d3, d4, d5] => { results := [.lit (.bool false)], args := [d1, d2, d3, d4, d5] }
  | _ => none }
def SeglogKeepsWrongFalsely : Prop := seglogKeepsRow.holds Tryz.pinned (OpenSpec.ofChange seglogKeepsWrong)

/-- 'gauntletlaw5.SeglogTwice': WHATEVER THE INPUT: true; the input reads as it did. -/
def seglogTwiceSpec : ChangeSpec := { name := "seglogTwice", fn := fun _ => fun
  | [d1, d2, d3, d4, d5, d6] => { results := [.lit (.bool true)], args := [d1, d2, d3, d4, d5, d6] }
  | _ => none }
def seglogTwiceRow : OpenClaim := { program := "ytnkjhooeklodcaagreatdoor", sum := "25b4e230ab22d39b244b5568d2376a95066422abfb7a24ff815776f3dc29eb2b", func := "gauntlet/gauntletlaw5.SeglogTwice", spec := "seglogTwice", inPlace := ["internal/bytealg.IndexByteString", "internal/bytealg.IndexString"], unfollowed := true, recurses := true, named := ["unicode/utf8.first", "unicode/utf8.acceptRanges", "internal/strconv.uint64pow10", "math/bits.deBruijn32tab", "math/bits.deBruijn64tab", "gauntlet/octet.sumSteps", "internal/bytealg.MaxLen"], apart := false, laid := [("math/bits.deBruijn32tab", laid_math_bits_deBruijn32tab), ("math/bits.deBruijn64tab", laid_math_bits_deBruijn64tab), ("internal/strconv.uint64pow10", laid_internal_strconv_uint64pow10), ("unicode/utf8.acceptRanges", laid_unicode_utf8_acceptRanges), ("gauntlet/octet.sumSteps", laid_gauntlet_octet_sumSteps), ("unicode/utf8.first", laid_unicode_utf8_first)] }
def SeglogTwiceSaid : Prop := seglogTwiceRow.holds Tryz.pinned (OpenSpec.ofChange seglogTwiceSpec)

/-- ITS FALSE NEIGHBOUR: 'it returns false'. Refute it at one input. -/
def seglogTwiceWrong : ChangeSpec := { name := "seglogTwice", fn := fun _ => fun
  | [d1, d2, d3, d4, d5, d6] => { results := [.lit (.bool false)], args := [d1, d2, d3, d4, d5, d6] }
  | _ => none }
def SeglogTwiceWrongFalsely : Prop := seglogTwiceRow.holds Tryz.pinned (OpenSpec.ofChange seglogTwiceWrong)

/-- 'gauntletlaw5.SeglogAnyBytes': WHATEVER THE INPUT: true; the input reads as it did. -/
def seglogAnyBytesSpec : ChangeSpec := { name := "seglogAnyBytes", fn := fun _ => fun
  | [d1, d2] => { results := [.lit (.bool true)], args := [d1, d2] }
  | _ => none }
def seglogAnyBytesRow : OpenClaim := { program := "ytnkjhooeklodcaagreatdoor", sum := "25b4e230ab22d39b244b5568d2376a95066422abfb7a24ff815776f3dc29eb2b", func := "gauntlet/gauntletlaw5.SeglogAnyBytes", spec := "seglogAnyBytes", inPlace := ["internal/bytealg.IndexByteString", "internal/bytealg.IndexString"], unfollowed := true, recurses := true, named := ["unicode/utf8.first", "unicode/utf8.acceptRanges", "internal/strconv.uint64pow10", "math/bits.deBruijn32tab", "math/bits.deBruijn64tab", "gauntlet/octet.sumSteps", "internal/bytealg.MaxLen"], apart := false, laid := [("math/bits.deBruijn32tab", laid_math_bits_deBruijn32tab), ("math/bits.deBruijn64tab", laid_math_bits_deBruijn64tab), ("internal/strconv.uint64pow10", laid_internal_strconv_uint64pow10), ("unicode/utf8.acceptRanges", laid_unicode_utf8_acceptRanges), ("gauntlet/octet.sumSteps", laid_gauntlet_octet_sumSteps), ("unicode/utf8.first", laid_unicode_utf8_first)] }
def SeglogAnyBytesSaid : Prop := seglogAnyBytesRow.holds Tryz.pinned (OpenSpec.ofChange seglogAnyBytesSpec)

/-- ITS FALSE NEIGHBOUR: 'it returns false'. Refute it at one input. -/
def seglogAnyBytesWrong : ChangeSpec := { name := "seglogAnyBytes", fn := fun _ => fun
  | [d1, d2] => { results := [.lit (.bool false)], args := [d1, d2] }
  | _ => none }
def SeglogAnyBytesWrongFalsely : Prop := seglogAnyBytesRow.holds Tryz.pinned (OpenSpec.ofChange seglogAnyBytesWrong)

/-- 'gauntletlaw5.SeglogOfNothing': WHATEVER THE INPUT: true; the input reads as it did. -/
def seglogOfNothingSpec : ChangeSpec := { name := "seglogOfNothing", fn := fun _ => fun
  | [d1, d2, d3] => { results := [.lit (.bool true)], args := [d1, d2, d3] }
  | _ => none }
def seglogOfNothingRow : OpenClaim := { program := "ytnkjhooeklodcaagreatdoor", sum := "25b4e230ab22d39b244b5568d2376a95066422abfb7a24ff815776f3dc29eb2b", func := "gauntlet/gauntletlaw5.SeglogOfNothing", spec := "seglogOfNothing", inPlace := ["internal/bytealg.IndexByteString", "internal/bytealg.IndexString"], unfollowed := true, recurses := true, named := ["gauntlet/octet.sumSteps", "internal/strconv.uint64pow10", "math/bits.deBruijn32tab", "math/bits.deBruijn64tab", "unicode/utf8.first", "unicode/utf8.acceptRanges", "internal/bytealg.MaxLen"], apart := false, laid := [("math/bits.deBruijn32tab", laid_math_bits_deBruijn32tab), ("math/bits.deBruijn64tab", laid_math_bits_deBruijn64tab), ("internal/strconv.uint64pow10", laid_internal_strconv_uint64pow10), ("unicode/utf8.acceptRanges", laid_unicode_utf8_acceptRanges), ("gauntlet/octet.sumSteps", laid_gauntlet_octet_sumSteps), ("unicode/utf8.first", laid_unicode_utf8_first)] }
def SeglogOfNothingSaid : Prop := seglogOfNothingRow.holds Tryz.pinned (OpenSpec.ofChange seglogOfNothingSpec)

/-- ITS FALSE NEIGHBOUR: 'it returns false'. Refute it at one input. -/
def seglogOfNothingWrong : ChangeSpec := { name := "seglogOfNothing", fn := fun _ => fun
  | [d1, d2, d3] => { results := [.lit (.bool false)], args := [d1, d2, d3] }
  | _ => none }
def SeglogOfNothingWrongFalsely : Prop := seglogOfNothingRow.holds Tryz.pinned (OpenSpec.ofChange seglogOfNothingWrong)

/-- 'gauntletlaw5.SeglogMany': WHATEVER THE INPUT: true; the input reads as it did. -/
def seglogManySpec : ChangeSpec := { name := "seglogMany", fn := fun _ => fun
  | [d1, d2] => { results := [.lit (.bool true)], args := [d1, d2] }
  | _ => none }
def seglogManyRow : OpenClaim := { program := "ytnkjhooeklodcaagreatdoor", sum := "25b4e230ab22d39b244b5568d2376a95066422abfb7a24ff815776f3dc29eb2b", func := "gauntlet/gauntletlaw5.SeglogMany", spec := "seglogMany", inPlace := ["internal/bytealg.IndexByteString", "internal/bytealg.IndexString"], unfollowed := true, recurses := true, named := ["unicode/utf8.first", "unicode/utf8.acceptRanges", "internal/strconv.uint64pow10", "math/bits.deBruijn32tab", "math/bits.deBruijn64tab", "gauntlet/octet.sumSteps", "internal/bytealg.MaxLen"], apart := false, laid := [("math/bits.deBruijn32tab", laid_math_bits_deBruijn32tab), ("math/bits.deBruijn64tab", laid_math_bits_deBruijn64tab), ("internal/strconv.uint64pow10", laid_internal_strconv_uint64pow10), ("unicode/utf8.acceptRanges", laid_unicode_utf8_acceptRanges), ("gauntlet/octet.sumSteps", laid_gauntlet_octet_sumSteps), ("unicode/utf8.first", laid_unicode_utf8_first)] }
def SeglogManySaid : Prop := seglogManyRow.holds Tryz.pinned (OpenSpec.ofChange seglogManySpec)

/-- ITS FALSE NEIGHBOUR: 'it returns false'. Refute it at one input. -/
def seglogManyWrong : ChangeSpec := { name := "seglogMany", fn := fun _ => fun
  | [d1, d2] => { results := [.lit (.bool false)], args := [d1, d2] }
  | _ => none }
def SeglogManyWrongFalsely : Prop := seglogManyRow.holds Tryz.pinned (OpenSpec.ofChange seglogManyWrong)

/- THE SECOND FORM. 'bulk': how many values and letters a reading holds, each counted each time it is reached (what is shared counts as often as it is met; a slice's spare places count too). A statement '..UptoSaid' is the law's where the arguments, and the package variables that the reading takes, are together of bulk at most 1048576: NARROWER than '..Said'. Prove '..Said' where nothing that the law and all that it calls make is longer than what came in: it says more and counts as full. Else prove '..UptoSaid'. A law counts once. -/
mutual
def uptoBulk {H : Type} : DataW H → Nat
  | .lit (.string bytes) => bytes.length + 1
  | .lit _ => 1
  | .nil => 1
  | .ptr d => uptoBulk d + 1
  | .slice elems spare => uptoBulkAll elems + uptoBulkAll spare + 1
  | .agg parts => uptoBulkAll parts + 1
  | .iface _ d => uptoBulk d + 1
  | .map entries => uptoBulkEntries entries + 1
  | .held _ => 1
def uptoBulkAll {H : Type} : List (DataW H) → Nat
  | [] => 0
  | d :: r => uptoBulk d + uptoBulkAll r
def uptoBulkEntries {H : Type} : List (Lit × DataW H) → Nat
  | [] => 0
  | x :: r => uptoBulkEntry x + uptoBulkEntries r
def uptoBulkEntry {H : Type} : Lit × DataW H → Nat
  | (.string bytes, d) => bytes.length + uptoBulk d + 1
  | (_, d) => uptoBulk d + 1
 end
def uptoSmall : (H : Type) → List (DataW H) → Bool := fun _ ds => decide (uptoBulkAll ds ≤ 1048576)
def OpenSpec.upto (s : _root_.Go.ChangeSpec) : _root_.Go.OpenSpec := { _root_.Go.OpenSpec.ofChange s with cond := some uptoSmall }

/-- 'gauntletlaw5.SeglogPlays', WHERE WHAT IT READS IS OF BULK AT MOST 1048576: true; the input reads as it did. -/
def seglogPlaysUptoRow : OpenClaim := { program := "ytnkjhooeklodcaagreatdoor", sum := "25b4e230ab22d39b244b5568d2376a95066422abfb7a24ff815776f3dc29eb2b", func := "gauntlet/gauntletlaw5.SeglogPlays", spec := "seglogPlays", inPlace := ["internal/bytealg.IndexByteString", "internal/bytealg.IndexString"], unfollowed := true, recurses := true, named := ["unicode/utf8.first", "unicode/utf8.acceptRanges", "internal/strconv.uint64pow10", "math/bits.deBruijn32tab", "math/bits.deBruijn64tab", "gauntlet/octet.sumSteps", "internal/bytealg.MaxLen"], apart := false, laid := [("math/bits.deBruijn32tab", laid_math_bits_deBruijn32tab), ("math/bits.deBruijn64tab", laid_math_bits_deBruijn64tab), ("internal/strconv.uint64pow10", laid_internal_strconv_uint64pow10), ("unicode/utf8.acceptRanges", laid_unicode_utf8_acceptRanges), ("gauntlet/octet.sumSteps", laid_gauntlet_octet_sumSteps), ("unicode/utf8.first", laid_unicode_utf8_first)], narrowed := true }
def SeglogPlaysUptoSaid : Prop := seglogPlaysUptoRow.holds Tryz.pinned (OpenSpec.upto seglogPlaysSpec)

/-- 'gauntletlaw5.SeglogKeeps', WHERE WHAT IT READS IS OF BULK AT MOST 1048576: true; the input reads as it did. -/
def seglogKeepsUptoRow : OpenClaim := { program := "ytnkjhooeklodcaagreatdoor", sum := "25b4e230ab22d39b244b5568d2376a95066422abfb7a24ff815776f3dc29eb2b", func := "gauntlet/gauntletlaw5.SeglogKeeps", spec := "seglogKeeps", inPlace := ["internal/bytealg.IndexByteString", "internal/bytealg.IndexString"], unfollowed := true, recurses := true, named := ["unicode/utf8.first", "unicode/utf8.acceptRanges", "internal/strconv.uint64pow10", "math/bits.deBruijn32tab", "math/bits.deBruijn64tab", "gauntlet/octet.sumSteps", "internal/bytealg.MaxLen"], apart := false, laid := [("math/bits.deBruijn32tab", laid_math_bits_deBruijn32tab), ("math/bits.deBruijn64tab", laid_math_bits_deBruijn64tab), ("internal/strconv.uint64pow10", laid_internal_strconv_uint64pow10), ("unicode/utf8.acceptRanges", laid_unicode_utf8_acceptRanges), ("gauntlet/octet.sumSteps", laid_gauntlet_octet_sumSteps), ("unicode/utf8.first", laid_unicode_utf8_first)], narrowed := true }
def SeglogKeepsUptoSaid : Prop := seglogKeepsUptoRow.holds Tryz.pinned (OpenSpec.upto seglogKeepsSpec)

/-- 'gauntletlaw5.SeglogTwice', WHERE WHAT IT READS IS OF BULK AT MOST 1048576: true; the input reads as it did. -/
def seglogTwiceUptoRow : OpenClaim := { program := "ytnkjhooeklodcaagreatdoor", sum := "25b4e230ab22d39b244b5568d2376a95066422abfb7a24ff815776f3dc29eb2b", func := "gauntlet/gauntletlaw5.SeglogTwice", spec := "seglogTwice", inPlace := ["internal/bytealg.IndexByteString", "internal/bytealg.IndexString"], unfollowed := true, recurses := true, named := ["unicode/utf8.first", "unicode/utf8.acceptRanges", "internal/strconv.uint64pow10", "math/bits.deBruijn32tab", "math/bits.deBruijn64tab", "gauntlet/octet.sumSteps", "internal/bytealg.MaxLen"], apart := false, laid := [("math/bits.deBruijn32tab", laid_math_bits_deBruijn32tab), ("math/bits.deBruijn64tab", laid_math_bits_deBruijn64tab), ("internal/strconv.uint64pow10", laid_internal_strconv_uint64pow10), ("unicode/utf8.acceptRanges", laid_unicode_utf8_acceptRanges), ("gauntlet/octet.sumSteps", laid_gauntlet_octet_sumSteps), ("unicode/utf8.first", laid_unicode_utf8_first)], narrowed := true }
def SeglogTwiceUptoSaid : Prop := seglogTwiceUptoRow.holds Tryz.pinned (OpenSpec.upto seglogTwiceSpec)

/-- 'gauntletlaw5.SeglogAnyBytes', WHERE WHAT IT READS IS OF BULK AT MOST 1048576: true; the input reads as it did. -/
def seglogAnyBytesUptoRow : OpenClaim := { program := "ytnkjhooeklodcaagreatdoor", sum := "25b4e230ab22d39b244b5568d2376a95066422abfb7a24ff815776f3dc29eb2b", func := "gauntlet/gauntletlaw5.SeglogAnyBytes", spec := "seglogAnyBytes", inPlace := ["internal/bytealg.IndexByteString", "internal/bytealg.IndexString"], unfollowed := true, recurses := true, named := ["unicode/utf8.first", "unicode/utf8.acceptRanges", "internal/strconv.uint64pow10", "math/bits.deBruijn32tab", "math/bits.deBruijn64tab", "gauntlet/octet.sumSteps", "internal/bytealg.MaxLen"], apart := false, laid := [("math/bits.deBruijn32tab", laid_math_bits_deBruijn32tab), ("math/bits.deBruijn64tab", laid_math_bits_deBruijn64tab), ("internal/strconv.uint64pow10", laid_internal_strconv_uint64pow10), ("unicode/utf8.acceptRanges", laid_unicode_utf8_acceptRanges), ("gauntlet/octet.sumSteps", laid_gauntlet_octet_sumSteps), ("unicode/utf8.first", laid_unicode_utf8_first)], narrowed := true }
def SeglogAnyBytesUptoSaid : Prop := seglogAnyBytesUptoRow.holds Tryz.pinned (OpenSpec.upto seglogAnyBytesSpec)

/-- 'gauntletlaw5.SeglogOfNothing', WHERE WHAT IT READS IS OF BULK AT MOST 1048576: true; the input reads as it did. -/
def seglogOfNothingUptoRow : OpenClaim := { program := "ytnkjhooeklodcaagreatdoor", sum := "25b4e230ab22d39b244b5568d2376a95066422abfb7a24ff815776f3dc29eb2b", func := "gauntlet/gauntletlaw5.SeglogOfNothing", spec := "seglogOfNothing", inPlace := ["internal/bytealg.IndexByteString", "internal/bytealg.IndexString"], unfollowed := true, recurses := true, named := ["gauntlet/octet.sumSteps", "internal/strconv.uint64pow10", "math/bits.deBruijn32tab", "math/bits.deBruijn64tab", "unicode/utf8.first", "unicode/utf8.acceptRanges", "internal/bytealg.MaxLen"], apart := false, laid := [("math/bits.deBruijn32tab", laid_math_bits_deBruijn32tab), ("math/bits.deBruijn64tab", laid_math_bits_deBruijn64tab), ("internal/strconv.uint64pow10", laid_internal_strconv_uint64pow10), ("unicode/utf8.acceptRanges", laid_unicode_utf8_acceptRanges), ("gauntlet/octet.sumSteps", laid_gauntlet_octet_sumSteps), ("unicode/utf8.first", laid_unicode_utf8_first)], narrowed := true }
def SeglogOfNothingUptoSaid : Prop := seglogOfNothingUptoRow.holds Tryz.pinned (OpenSpec.upto seglogOfNothingSpec)

/-- 'gauntletlaw5.SeglogMany', WHERE WHAT IT READS IS OF BULK AT MOST 1048576: true; the input reads as it did. -/
def seglogManyUptoRow : OpenClaim := { program := "ytnkjhooeklodcaagreatdoor", sum := "25b4e230ab22d39b244b5568d2376a95066422abfb7a24ff815776f3dc29eb2b", func := "gauntlet/gauntletlaw5.SeglogMany", spec := "seglogMany", inPlace := ["internal/bytealg.IndexByteString", "internal/bytealg.IndexString"], unfollowed := true, recurses := true, named := ["unicode/utf8.first", "unicode/utf8.acceptRanges", "internal/strconv.uint64pow10", "math/bits.deBruijn32tab", "math/bits.deBruijn64tab", "gauntlet/octet.sumSteps", "internal/bytealg.MaxLen"], apart := false, laid := [("math/bits.deBruijn32tab", laid_math_bits_deBruijn32tab), ("math/bits.deBruijn64tab", laid_math_bits_deBruijn64tab), ("internal/strconv.uint64pow10", laid_internal_strconv_uint64pow10), ("unicode/utf8.acceptRanges", laid_unicode_utf8_acceptRanges), ("gauntlet/octet.sumSteps", laid_gauntlet_octet_sumSteps), ("unicode/utf8.first", laid_unicode_utf8_first)], narrowed := true }
def SeglogManyUptoSaid : Prop := seglogManyUptoRow.holds Tryz.pinned (OpenSpec.upto seglogManySpec)

end Rows
end Go.Proofs.YtnkjhooeklodcaaGreatDoor
