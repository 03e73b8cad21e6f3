/-
  NARROWER THAN 'FOR EVERY INPUT', by the rows' own cells (each row's printed sentence says how): KlassRights: laid · KlassBytes: laid · KlassCanons: laid · KlassSame: laid · PackRights: laid · PackBytes: laid · PackSame: laid · PackShort: laid.
  DERIVED. THE GIVEN ROWS OF THIS SEAT. 8 by the template 'for every input the law returns true; each argument reads behind the call as it read before'; 0 by the template 'total and deterministic' (their statements: YthkkcecfenohjaaGreatDoorTotals.lean).
  GIVEN WITH THE SEED: the statements are not yours to turn. If you find one false, say at which input.
  Laid BY PROGRAM, IN A SANDBOX (cutbox-rows.mjs): the forced cells as the released guide's own fill.sh prints them over the translation ee72052394018871… (all of the seat's roots in one cut). By AI agents, Wed Nov 11 2026. No macro, syntax, notation, axiom, sorry.
-/
import Derived.Test.YthkkcecfenohjaaGreatDoorChecked
import GoSem.PinnedTables
import GoSem.Claim
import GoSem.ClaimJoined
import GoSem.ClaimMapViews
import Derived.JoinedTies
import Derived.KernelRfl
namespace Go.Proofs.YthkkcecfenohjaaGreatDoor
/- THE CELL 'sum', in the pinned program and in every row, IS THE sha256 OF THE DUMP (.gsa) THAT YthkkcecfenohjaaGreatDoorProg.lean LOADS. Nothing in Lean hashes anything: it is a label: what it is worth is what the hold of that sum in a sandbox is worth. -/
noncomputable def Tryz.pinned : Pinned := { name := "ythkkcecfenohjaagreatdoor", sum := "ee720523940188711ab59c53a3799e2c551b5615c424eb9df6353a0661b30748", checked := Tryz.checked }
namespace Rows
def none {H : Type} : Left H := { results := [], args := [] }

/- WHAT THE LISTED PACKAGE-LEVEL VARIABLES READ AS WHEN THE CALL BEGINS. Each datum BY PROGRAM (the guide's laid-datum.mjs) off the statement by which the dump's own 'gosem.cut.vars' lays the variable. In a bare row this is a premise. The card (YthkkcecfenohjaaGreatDoorCards.lean) ties it to the program's text. -/
def laid_unicode_utf8_acceptRanges {H : Type} : DataW H := .agg [.agg [.lit (.int .u8 128), .lit (.int .u8 191)], .agg [.lit (.int .u8 160), .lit (.int .u8 191)], .agg [.lit (.int .u8 128), .lit (.int .u8 159)], .agg [.lit (.int .u8 144), .lit (.int .u8 191)], .agg [.lit (.int .u8 128), .lit (.int .u8 143)], .agg [.lit (.int .u8 0), .lit (.int .u8 0)], .agg [.lit (.int .u8 0), .lit (.int .u8 0)], .agg [.lit (.int .u8 0), .lit (.int .u8 0)], .agg [.lit (.int .u8 0), .lit (.int .u8 0)], .agg [.lit (.int .u8 0), .lit (.int .u8 0)], .agg [.lit (.int .u8 0), .lit (.int .u8 0)], .agg [.lit (.int .u8 0), .lit (.int .u8 0)], .agg [.lit (.int .u8 0), .lit (.int .u8 0)], .agg [.lit (.int .u8 0), .lit (.int .u8 0)], .agg [.lit (.int .u8 0), .lit (.int .u8 0)], .agg [.lit (.int .u8 0), .lit (.int .u8 0)]]
def laid_hornbook_ins_rows {H : Type} : DataW H := .agg [.agg [.lit (.string [110, 111, 112]), .lit (.int .i64 0)], .agg [.lit (.string [105, 110, 116]), .lit (.int .i64 1)], .agg [.lit (.string [115, 116, 114]), .lit (.int .i64 2)], .agg [.lit (.string [116, 114, 117, 101]), .lit (.int .i64 0)], .agg [.lit (.string [102, 97, 108, 115, 101]), .lit (.int .i64 0)], .agg [.lit (.string [110, 117, 108, 108]), .lit (.int .i64 0)], .agg [.lit (.string [108, 111, 97, 100]), .lit (.int .i64 6)], .agg [.lit (.string [115, 116, 111, 114, 101]), .lit (.int .i64 6)], .agg [.lit (.string [112, 111, 112]), .lit (.int .i64 0)], .agg [.lit (.string [100, 117, 112]), .lit (.int .i64 0)], .agg [.lit (.string [97, 100, 100]), .lit (.int .i64 0)], .agg [.lit (.string [115, 117, 98]), .lit (.int .i64 0)], .agg [.lit (.string [109, 117, 108]), .lit (.int .i64 0)], .agg [.lit (.string [100, 105, 118]), .lit (.int .i64 0)], .agg [.lit (.string [114, 101, 109]), .lit (.int .i64 0)], .agg [.lit (.string [110, 101, 103]), .lit (.int .i64 0)], .agg [.lit (.string [110, 111, 116]), .lit (.int .i64 0)], .agg [.lit (.string [108, 116]), .lit (.int .i64 0)], .agg [.lit (.string [108, 101]), .lit (.int .i64 0)], .agg [.lit (.string [101, 113, 105]), .lit (.int .i64 0)], .agg [.lit (.string [101, 113, 98]), .lit (.int .i64 0)], .agg [.lit (.string [101, 113, 114]), .lit (.int .i64 0)], .agg [.lit (.string [106, 117, 109, 112]), .lit (.int .i64 7)], .agg [.lit (.string [106, 117, 109, 112, 116]), .lit (.int .i64 7)], .agg [.lit (.string [106, 117, 109, 112, 102]), .lit (.int .i64 7)], .agg [.lit (.string [110, 101, 119]), .lit (.int .i64 3)], .agg [.lit (.string [103, 101, 116, 102]), .lit (.int .i64 4)], .agg [.lit (.string [112, 117, 116, 102]), .lit (.int .i64 4)], .agg [.lit (.string [97, 114, 114]), .lit (.int .i64 3)], .agg [.lit (.string [97, 108, 111, 97, 100]), .lit (.int .i64 0)], .agg [.lit (.string [97, 115, 116, 111, 114, 101]), .lit (.int .i64 0)], .agg [.lit (.string [97, 108, 101, 110]), .lit (.int .i64 0)], .agg [.lit (.string [99, 97, 108, 108]), .lit (.int .i64 5)], .agg [.lit (.string [114, 101, 116]), .lit (.int .i64 0)], .agg [.lit (.string [114, 101, 116, 118]), .lit (.int .i64 0)], .agg [.lit (.string [116, 104, 114, 111, 119]), .lit (.int .i64 0)], .agg [.lit (.string [101, 110, 116, 101, 114]), .lit (.int .i64 0)], .agg [.lit (.string [101, 120, 105, 116]), .lit (.int .i64 0)], .agg [.lit (.string [99, 97, 115, 116]), .lit (.int .i64 3)], .agg [.lit (.string [105, 115]), .lit (.int .i64 3)], .agg [.lit (.string [112, 114, 105, 110, 116]), .lit (.int .i64 0)], .agg [.lit (.string [114, 101, 97, 100]), .lit (.int .i64 0)], .agg [.lit (.string [106, 111, 105, 110]), .lit (.int .i64 0)], .agg [.lit (.string [115, 108, 101, 110]), .lit (.int .i64 0)], .agg [.lit (.string [115, 112, 97, 119, 110]), .lit (.int .i64 0)], .agg [.lit (.string [111, 108, 100]), .lit (.int .i64 4)]]
/-- One of Go's own tables, pinned by name: the form's constant. -/
def laid_unicode_utf8_first : DataW Unit := Go.Pinned.utf8First

/-- 'hornbooklaw05.KlassRights': WHATEVER THE INPUT: true; the input reads as it did. -/
def klassRightsSpec : ChangeSpec := { name := "klassRights", fn := fun _ => fun
  | [d1, d2] => { results := [.lit (.bool true)], args := [d1, d2] }
  | _ => none }
def klassRightsRow : OpenClaim := { program := "ythkkcecfenohjaagreatdoor", sum := "ee720523940188711ab59c53a3799e2c551b5615c424eb9df6353a0661b30748", func := "hornbook/hornbooklaw05.KlassRights", spec := "klassRights", inPlace := ["internal/bytealg.IndexByteString", "internal/bytealg.IndexString"], unfollowed := true, recurses := true, named := ["unicode/utf8.first", "unicode/utf8.acceptRanges", "hornbook/ins.rows", "internal/bytealg.MaxLen"], apart := false, laid := [("unicode/utf8.acceptRanges", laid_unicode_utf8_acceptRanges), ("hornbook/ins.rows", laid_hornbook_ins_rows), ("unicode/utf8.first", laid_unicode_utf8_first)] }
def KlassRightsSaid : Prop := klassRightsRow.holds Tryz.pinned (OpenSpec.ofChange klassRightsSpec)

/-- ITS FALSE NEIGHBOUR: 'it returns false'. Refute it at one input. -/
def klassRightsWrong : ChangeSpec := { name := "klassRights", fn := fun _ => fun
  | [d1, d2] => { results := [.lit (.bool false)], args := [d1, d2] }
  | _ => none }
def KlassRightsWrongFalsely : Prop := klassRightsRow.holds Tryz.pinned (OpenSpec.ofChange klassRightsWrong)

/-- 'hornbooklaw05.KlassBytes': WHATEVER THE INPUT: true; the input reads as it did. -/
def klassBytesSpec : ChangeSpec := { name := "klassBytes", fn := fun _ => fun
  | [d] => { results := [.lit (.bool true)], args := [d] }
  | _ => none }
def klassBytesRow : OpenClaim := { program := "ythkkcecfenohjaagreatdoor", sum := "ee720523940188711ab59c53a3799e2c551b5615c424eb9df6353a0661b30748", func := "hornbook/hornbooklaw05.KlassBytes", spec := "klassBytes", inPlace := ["internal/bytealg.IndexByteString", "internal/bytealg.IndexString"], unfollowed := true, recurses := true, named := ["unicode/utf8.first", "unicode/utf8.acceptRanges", "hornbook/ins.rows", "internal/bytealg.MaxLen"], apart := false, laid := [("unicode/utf8.acceptRanges", laid_unicode_utf8_acceptRanges), ("hornbook/ins.rows", laid_hornbook_ins_rows), ("unicode/utf8.first", laid_unicode_utf8_first)] }
def KlassBytesSaid : Prop := klassBytesRow.holds Tryz.pinned (OpenSpec.ofChange klassBytesSpec)

/-- ITS FALSE NEIGHBOUR: 'it returns false'. Refute it at one input. -/
def klassBytesWrong : ChangeSpec := { name := "klassBytes", fn := fun _ => fun
  | [d] => { results := [.lit (.bool false)], args := [d] }
  | _ => none }
def KlassBytesWrongFalsely : Prop := klassBytesRow.holds Tryz.pinned (OpenSpec.ofChange klassBytesWrong)

/-- 'hornbooklaw05.KlassCanons': WHATEVER THE INPUT: true; the input reads as it did. -/
def klassCanonsSpec : ChangeSpec := { name := "klassCanons", fn := fun _ => fun
  | [d1, d2] => { results := [.lit (.bool true)], args := [d1, d2] }
  | _ => none }
def klassCanonsRow : OpenClaim := { program := "ythkkcecfenohjaagreatdoor", sum := "ee720523940188711ab59c53a3799e2c551b5615c424eb9df6353a0661b30748", func := "hornbook/hornbooklaw05.KlassCanons", spec := "klassCanons", inPlace := ["internal/bytealg.IndexByteString", "internal/bytealg.IndexString"], unfollowed := true, recurses := true, named := ["unicode/utf8.first", "unicode/utf8.acceptRanges", "hornbook/ins.rows", "internal/bytealg.MaxLen"], apart := false, laid := [("unicode/utf8.acceptRanges", laid_unicode_utf8_acceptRanges), ("hornbook/ins.rows", laid_hornbook_ins_rows), ("unicode/utf8.first", laid_unicode_utf8_first)] }
def KlassCanonsSaid : Prop := klassCanonsRow.holds Tryz.pinned (OpenSpec.ofChange klassCanonsSpec)

/-- ITS FALSE NEIGHBOUR: 'it returns false'. Refute it at one input. -/
def klassCanonsWrong : ChangeSpec := { name := "klassCanons", fn := fun _ => fun
  | [d1, d2] => { results := [.lit (.bool false)], args := [d1, d2] }
  | _ => none }
def KlassCanonsWrongFalsely : Prop := klassCanonsRow.holds Tryz.pinned (OpenSpec.ofChange klassCanonsWrong)

/-- 'hornbooklaw05.KlassSame': WHATEVER THE INPUT: true; the input reads as it did. -/
def klassSameSpec : ChangeSpec := { name := "klassSame", fn := fun _ => fun
  | [d1, d2] => { results := [.lit (.bool true)], args := [d1, d2] }
  | _ => none }
def klassSameRow : OpenClaim := { program := "ythkkcecfenohjaagreatdoor", sum := "ee720523940188711ab59c53a3799e2c551b5615c424eb9df6353a0661b30748", func := "hornbook/hornbooklaw05.KlassSame", spec := "klassSame", inPlace := ["internal/bytealg.IndexByteString", "internal/bytealg.IndexString"], unfollowed := true, recurses := true, named := ["unicode/utf8.first", "unicode/utf8.acceptRanges", "hornbook/ins.rows", "internal/bytealg.MaxLen"], apart := false, laid := [("unicode/utf8.acceptRanges", laid_unicode_utf8_acceptRanges), ("hornbook/ins.rows", laid_hornbook_ins_rows), ("unicode/utf8.first", laid_unicode_utf8_first)] }
def KlassSameSaid : Prop := klassSameRow.holds Tryz.pinned (OpenSpec.ofChange klassSameSpec)

/-- ITS FALSE NEIGHBOUR: 'it returns false'. Refute it at one input. -/
def klassSameWrong : ChangeSpec := { name := "klassSame", fn := fun _ => fun
  | [d1, d2] => { results := [.lit (.bool false)], args := [d1, d2] }
  | _ => none }
def KlassSameWrongFalsely : Prop := klassSameRow.holds Tryz.pinned (OpenSpec.ofChange klassSameWrong)

/-- 'hornbooklaw06.PackRights': WHATEVER THE INPUT: true; the input reads as it did. -/
def packRightsSpec : ChangeSpec := { name := "packRights", fn := fun _ => fun
  | [d1, d2] => { results := [.lit (.bool true)], args := [d1, d2] }
  | _ => none }
def packRightsRow : OpenClaim := { program := "ythkkcecfenohjaagreatdoor", sum := "ee720523940188711ab59c53a3799e2c551b5615c424eb9df6353a0661b30748", func := "hornbook/hornbooklaw06.PackRights", spec := "packRights", inPlace := ["internal/bytealg.IndexByteString", "internal/bytealg.IndexString"], unfollowed := true, recurses := true, named := ["unicode/utf8.first", "unicode/utf8.acceptRanges", "hornbook/ins.rows", "internal/bytealg.MaxLen"], apart := false, laid := [("unicode/utf8.acceptRanges", laid_unicode_utf8_acceptRanges), ("hornbook/ins.rows", laid_hornbook_ins_rows), ("unicode/utf8.first", laid_unicode_utf8_first)] }
def PackRightsSaid : Prop := packRightsRow.holds Tryz.pinned (OpenSpec.ofChange packRightsSpec)

/-- ITS FALSE NEIGHBOUR: 'it returns false'. Refute it at one input. -/
def packRightsWrong : ChangeSpec := { name := "packRights", fn := fun _ => fun
  | [d1, d2] => { results := [.lit (.bool false)], args := [d1, d2] }
  | _ => none }
def PackRightsWrongFalsely : Prop := packRightsRow.holds Tryz.pinned (OpenSpec.ofChange packRightsWrong)

/-- 'hornbooklaw06.PackBytes': WHATEVER THE INPUT: true; the input reads as it did. -/
def packBytesSpec : ChangeSpec := { name := "packBytes", fn := fun _ => fun
  | [d] => { results := [.lit (.bool true)], args := [d] }
  | _ => none }
def packBytesRow : OpenClaim := { program := "ythkkcecfenohjaagreatdoor", sum := "ee720523940188711ab59c53a3799e2c551b5615c424eb9df6353a0661b30748", func := "hornbook/hornbooklaw06.PackBytes", spec := "packBytes", inPlace := ["internal/bytealg.IndexByteString", "internal/bytealg.IndexString"], unfollowed := true, recurses := true, named := ["unicode/utf8.first", "unicode/utf8.acceptRanges", "hornbook/ins.rows", "internal/bytealg.MaxLen"], apart := false, laid := [("unicode/utf8.acceptRanges", laid_unicode_utf8_acceptRanges), ("hornbook/ins.rows", laid_hornbook_ins_rows), ("unicode/utf8.first", laid_unicode_utf8_first)] }
def PackBytesSaid : Prop := packBytesRow.holds Tryz.pinned (OpenSpec.ofChange packBytesSpec)

/-- ITS FALSE NEIGHBOUR: 'it returns false'. Refute it at one input. -/
def packBytesWrong : ChangeSpec := { name := "packBytes", fn := fun _ => fun
  | [d] => { results := [.lit (.bool false)], args := [d] }
  | _ => none }
def PackBytesWrongFalsely : Prop := packBytesRow.holds Tryz.pinned (OpenSpec.ofChange packBytesWrong)

/-- 'hornbooklaw06.PackSame': WHATEVER THE INPUT: true; the input reads as it did. -/
def packSameSpec : ChangeSpec := { name := "packSame", fn := fun _ => fun
  | [d1, d2] => { results := [.lit (.bool true)], args := [d1, d2] }
  | _ => none }
def packSameRow : OpenClaim := { program := "ythkkcecfenohjaagreatdoor", sum := "ee720523940188711ab59c53a3799e2c551b5615c424eb9df6353a0661b30748", func := "hornbook/hornbooklaw06.PackSame", spec := "packSame", inPlace := ["internal/bytealg.IndexByteString", "internal/bytealg.IndexString"], unfollowed := true, recurses := true, named := ["unicode/utf8.first", "unicode/utf8.acceptRanges", "hornbook/ins.rows", "internal/bytealg.MaxLen"], apart := false, laid := [("unicode/utf8.acceptRanges", laid_unicode_utf8_acceptRanges), ("hornbook/ins.rows", laid_hornbook_ins_rows), ("unicode/utf8.first", laid_unicode_utf8_first)] }
def PackSameSaid : Prop := packSameRow.holds Tryz.pinned (OpenSpec.ofChange packSameSpec)

/-- ITS FALSE NEIGHBOUR: 'it returns false'. Refute it at one input. -/
def packSameWrong : ChangeSpec := { name := "packSame", fn := fun _ => fun
  | [d1, d2] => { results := [.lit (.bool false)], args := [d1, d2] }
  | _ => none }
def PackSameWrongFalsely : Prop := packSameRow.holds Tryz.pinned (OpenSpec.ofChange packSameWrong)

/-- 'hornbooklaw06.PackShort': WHATEVER THE INPUT: true; the input reads as it did. -/
def packShortSpec : ChangeSpec := { name := "packShort", fn := fun _ => fun
  | [d1, d2] => { results := [.lit (.bool true)], args := [d1, d2] }
  | _ => none }
def packShortRow : OpenClaim := { program := "ythkkcecfenohjaagreatdoor", sum := "ee720523940188711ab59c53a3799e2c551b5615c424eb9df6353a0661b30748", func := "hornbook/hornbooklaw06.PackShort", spec := "packShort", inPlace := ["internal/bytealg.IndexByteString", "internal/bytealg.IndexString"], unfollowed := true, recurses := true, named := ["unicode/utf8.first", "unicode/utf8.acceptRanges", "hornbook/ins.rows", "internal/bytealg.MaxLen"], apart := false, laid := [("unicode/utf8.acceptRanges", laid_unicode_utf8_acceptRanges), ("hornbook/ins.rows", laid_hornbook_ins_rows), ("unicode/utf8.first", laid_unicode_utf8_first)] }
def PackShortSaid : Prop := packShortRow.holds Tryz.pinned (OpenSpec.ofChange packShortSpec)

/-- ITS FALSE NEIGHBOUR: 'it returns false'. Refute it at one input. -/
def packShortWrong : ChangeSpec := { name := "packShort", fn := fun _ => fun
  | [d1, d2] => { results := [.lit (.bool false)], args := [d1, d2] }
  | _ => none }
def PackShortWrongFalsely : Prop := packShortRow.holds Tryz.pinned (OpenSpec.ofChange packShortWrong)

/- THE SECOND FORM. 'bulk': how many values and letters a reading holds, each counted each time it is reached (what is shared counts as often as it is met; a slice's spare places count too). A statement '..UptoSaid' is the law's where the arguments, and the package variables that the reading takes, are together of bulk at most 1048576: NARROWER than '..Said'. Prove '..Said' where nothing that the law and all that it calls make is longer than what came in: it says more and counts as full. Else prove '..UptoSaid'. A law counts once. -/
mutual
def uptoBulk {H : Type} : DataW H → Nat
  | .lit (.string bytes) => bytes.length + 1
  | .lit _ => 1
  | .nil => 1
  | .ptr d => uptoBulk d + 1
  | .slice elems spare => uptoBulkAll elems + uptoBulkAll spare + 1
  | .agg parts => uptoBulkAll parts + 1
  | .iface _ d => uptoBulk d + 1
  | .map entries => uptoBulkEntries entries + 1
  | .held _ => 1
def uptoBulkAll {H : Type} : List (DataW H) → Nat
  | [] => 0
  | d :: r => uptoBulk d + uptoBulkAll r
def uptoBulkEntries {H : Type} : List (Lit × DataW H) → Nat
  | [] => 0
  | x :: r => uptoBulkEntry x + uptoBulkEntries r
def uptoBulkEntry {H : Type} : Lit × DataW H → Nat
  | (.string bytes, d) => bytes.length + uptoBulk d + 1
  | (_, d) => uptoBulk d + 1
 end
def uptoSmall : (H : Type) → List (DataW H) → Bool := fun _ ds => decide (uptoBulkAll ds ≤ 1048576)
def OpenSpec.upto (s : _root_.Go.ChangeSpec) : _root_.Go.OpenSpec := { _root_.Go.OpenSpec.ofChange s with cond := some uptoSmall }

/-- 'hornbooklaw05.KlassRights', WHERE WHAT IT READS IS OF BULK AT MOST 1048576: true; the input reads as it did. -/
def klassRightsUptoRow : OpenClaim := { program := "ythkkcecfenohjaagreatdoor", sum := "ee720523940188711ab59c53a3799e2c551b5615c424eb9df6353a0661b30748", func := "hornbook/hornbooklaw05.KlassRights", spec := "klassRights", inPlace := ["internal/bytealg.IndexByteString", "internal/bytealg.IndexString"], unfollowed := true, recurses := true, named := ["unicode/utf8.first", "unicode/utf8.acceptRanges", "hornbook/ins.rows", "internal/bytealg.MaxLen"], apart := false, laid := [("unicode/utf8.acceptRanges", laid_unicode_utf8_acceptRanges), ("hornbook/ins.rows", laid_hornbook_ins_rows), ("unicode/utf8.first", laid_unicode_utf8_first)], narrowed := true }
def KlassRightsUptoSaid : Prop := klassRightsUptoRow.holds Tryz.pinned (OpenSpec.upto klassRightsSpec)

/-- 'hornbooklaw05.KlassBytes', WHERE WHAT IT READS IS OF BULK AT MOST 1048576: true; the input reads as it did. -/
def klassBytesUptoRow : OpenClaim := { program := "ythkkcecfenohjaagreatdoor", sum := "ee720523940188711ab59c53a3799e2c551b5615c424eb9df6353a0661b30748", func := "hornbook/hornbooklaw05.KlassBytes", spec := "klassBytes", inPlace := ["internal/bytealg.IndexByteString", "internal/bytealg.IndexString"], unfollowed := true, recurses := true, named := ["unicode/utf8.first", "unicode/utf8.acceptRanges", "hornbook/ins.rows", "internal/bytealg.MaxLen"], apart := false, laid := [("unicode/utf8.acceptRanges", laid_unicode_utf8_acceptRanges), ("hornbook/ins.rows", laid_hornbook_ins_rows), ("unicode/utf8.first", laid_unicode_utf8_first)], narrowed := true }
def KlassBytesUptoSaid : Prop := klassBytesUptoRow.holds Tryz.pinned (OpenSpec.upto klassBytesSpec)

/-- 'hornbooklaw05.KlassCanons', WHERE WHAT IT READS IS OF BULK AT MOST 1048576: true; the input reads as it did. -/
def klassCanonsUptoRow : OpenClaim := { program := "ythkkcecfenohjaagreatdoor", sum := "ee720523940188711ab59c53a3799e2c551b5615c424eb9df6353a0661b30748", func := "hornbook/hornbooklaw05.KlassCanons", spec := "klassCanons", inPlace := ["internal/bytealg.IndexByteString", "internal/bytealg.IndexString"], unfollowed := true, recurses := true, named := ["unicode/utf8.first", "unicode/utf8.acceptRanges", "hornbook/ins.rows", "internal/bytealg.MaxLen"], apart := false, laid := [("unicode/utf8.acceptRanges", laid_unicode_utf8_acceptRanges), ("hornbook/ins.rows", laid_hornbook_ins_rows), ("unicode/utf8.first", laid_unicode_utf8_first)], narrowed := true }
def KlassCanonsUptoSaid : Prop := klassCanonsUptoRow.holds Tryz.pinned (OpenSpec.upto klassCanonsSpec)

/-- 'hornbooklaw05.KlassSame', WHERE WHAT IT READS IS OF BULK AT MOST 1048576: true; the input reads as it did. -/
def klassSameUptoRow : OpenClaim := { program := "ythkkcecfenohjaagreatdoor", sum := "ee720523940188711ab59c53a3799e2c551b5615c424eb9df6353a0661b30748", func := "hornbook/hornbooklaw05.KlassSame", spec := "klassSame", inPlace := ["internal/bytealg.IndexByteString", "internal/bytealg.IndexString"], unfollowed := true, recurses := true, named := ["unicode/utf8.first", "unicode/utf8.acceptRanges", "hornbook/ins.rows", "internal/bytealg.MaxLen"], apart := false, laid := [("unicode/utf8.acceptRanges", laid_unicode_utf8_acceptRanges), ("hornbook/ins.rows", laid_hornbook_ins_rows), ("unicode/utf8.first", laid_unicode_utf8_first)], narrowed := true }
def KlassSameUptoSaid : Prop := klassSameUptoRow.holds Tryz.pinned (OpenSpec.upto klassSameSpec)

/-- 'hornbooklaw06.PackRights', WHERE WHAT IT READS IS OF BULK AT MOST 1048576: true; the input reads as it did. -/
def packRightsUptoRow : OpenClaim := { program := "ythkkcecfenohjaagreatdoor", sum := "ee720523940188711ab59c53a3799e2c551b5615c424eb9df6353a0661b30748", func := "hornbook/hornbooklaw06.PackRights", spec := "packRights", inPlace := ["internal/bytealg.IndexByteString", "internal/bytealg.IndexString"], unfollowed := true, recurses := true, named := ["unicode/utf8.first", "unicode/utf8.acceptRanges", "hornbook/ins.rows", "internal/bytealg.MaxLen"], apart := false, laid := [("unicode/utf8.acceptRanges", laid_unicode_utf8_acceptRanges), ("hornbook/ins.rows", laid_hornbook_ins_rows), ("unicode/utf8.first", laid_unicode_utf8_first)], narrowed := true }
def PackRightsUptoSaid : Prop := packRightsUptoRow.holds Tryz.pinned (OpenSpec.upto packRightsSpec)

/-- 'hornbooklaw06.PackBytes', WHERE WHAT IT READS IS OF BULK AT MOST 1048576: true; the input reads as it did. -/
def packBytesUptoRow : OpenClaim := { program := "ythkkcecfenohjaagreatdoor", sum := "ee720523940188711ab59c53a3799e2c551b5615c424eb9df6353a0661b30748", func := "hornbook/hornbooklaw06.PackBytes", spec := "packBytes", inPlace := ["internal/bytealg.IndexByteString", "internal/bytealg.IndexString"], unfollowed := true, recurses := true, named := ["unicode/utf8.first", "unicode/utf8.acceptRanges", "hornbook/ins.rows", "internal/bytealg.MaxLen"], apart := false, laid := [("unicode/utf8.acceptRanges", laid_unicode_utf8_acceptRanges), ("hornbook/ins.rows", laid_hornbook_ins_rows), ("unicode/utf8.first", laid_unicode_utf8_first)], narrowed := true }
def PackBytesUptoSaid : Prop := packBytesUptoRow.holds Tryz.pinned (OpenSpec.upto packBytesSpec)

/-- 'hornbooklaw06.PackSame', WHERE WHAT IT READS IS OF BULK AT MOST 1048576: true; the input reads as it did. -/
def packSameUptoRow : OpenClaim := { program := "ythkkcecfenohjaagreatdoor", sum := "ee720523940188711ab59c53a3799e2c551b5615c424eb9df6353a0661b30748", func := "hornbook/hornbooklaw06.PackSame", spec := "packSame", inPlace := ["internal/bytealg.IndexByteString", "internal/bytealg.IndexString"], unfollowed := true, recurses := true, named := ["unicode/utf8.first", "unicode/utf8.acceptRanges", "hornbook/ins.rows", "internal/bytealg.MaxLen"], apart := false, laid := [("unicode/utf8.acceptRanges", laid_unicode_utf8_acceptRanges), ("hornbook/ins.rows", laid_hornbook_ins_rows), ("unicode/utf8.first", laid_unicode_utf8_first)], narrowed := true }
def PackSameUptoSaid : Prop := packSameUptoRow.holds Tryz.pinned (OpenSpec.upto packSameSpec)

/-- 'hornbooklaw06.PackShort', WHERE WHAT IT READS IS OF BULK AT MOST 1048576: true; the input reads as it did. -/
def packShortUptoRow : OpenClaim := { program := "ythkkcecfenohjaagreatdoor", sum := "ee720523940188711ab59c53a3799e2c551b5615c424eb9df6353a0661b30748", func := "hornbook/hornbooklaw06.PackShort", spec := "packShort", inPlace := ["internal/bytealg.IndexByteString", "internal/bytealg.IndexString"], unfollowed := true, recurses := true, named := ["unicode/utf8.first", "unicode/utf8.acceptRanges", "hornbook/ins.rows", "internal/bytealg.MaxLen"], apart := false, laid := [("unicode/utf8.acceptRanges", laid_unicode_utf8_acceptRanges), ("hornbook/ins.rows", laid_hornbook_ins_rows), ("unicode/utf8.first", laid_unicode_utf8_first)], narrowed := true }
def PackShortUptoSaid : Prop := packShortUptoRow.holds Tryz.pinned (OpenSpec.upto packShortSpec)

end Rows
end Go.Proofs.YthkkcecfenohjaaGreatDoor
