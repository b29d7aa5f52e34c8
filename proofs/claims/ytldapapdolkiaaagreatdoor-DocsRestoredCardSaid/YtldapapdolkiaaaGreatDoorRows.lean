/-
  NARROWER THAN 'FOR EVERY INPUT', by the rows' own cells (each row's printed sentence says how): DocsSegments: laid · DocsRestored: laid · DocsProject: laid · DocsKept: laid.
  DERIVED. THE GIVEN ROWS OF THIS SEAT. 4 by the template 'for every input the law returns true; each argument reads behind the call as it read before'; 0 by the template 'total and deterministic' (their statements: YtldapapdolkiaaaGreatDoorTotals.lean).
  GIVEN WITH THE SEED: the statements are not yours to turn. If you find one false, say at which input.
  Laid BY PROGRAM, IN A SANDBOX (cutbox-rows.mjs): the forced cells as the released guide's own fill.sh prints them over the translation 8e35bfa1016cc71f… (all of the seat's roots in one cut). By AI agents, Wed Nov 11 2026. No macro, syntax, notation, axiom, sorry.
-/
import Derived.Test.YtldapapdolkiaaaGreatDoorChecked
import GoSem.PinnedTables
import GoSem.Claim
import GoSem.ClaimJoined
import GoSem.ClaimMapViews
import Derived.JoinedTies
import Derived.KernelRfl
namespace Go.Proofs.YtldapapdolkiaaaGreatDoor
/- THE CELL 'sum', in the pinned program and in every row, IS THE sha256 OF THE DUMP (.gsa) THAT YtldapapdolkiaaaGreatDoorProg.lean LOADS. Nothing in Lean hashes anything: it is a label: what it is worth is what the hold of that sum in a sandbox is worth. -/
noncomputable def Tryz.pinned : Pinned := { name := "ytldapapdolkiaaagreatdoor", sum := "8e35bfa1016cc71fb3e23398329e7be771d8bb23b2bc7fdea748c326912b0b78", checked := Tryz.checked }
namespace Rows
def none {H : Type} : Left H := { results := [], args := [] }

/- WHAT THE LISTED PACKAGE-LEVEL VARIABLES READ AS WHEN THE CALL BEGINS. Each datum BY PROGRAM (the guide's laid-datum.mjs) off the statement by which the dump's own 'gosem.cut.vars' lays the variable. In a bare row this is a premise. The card (YtldapapdolkiaaaGreatDoorCards.lean) ties it to the program's text. -/
def laid_unicode_utf8_acceptRanges {H : Type} : DataW H := .agg [.agg [.lit (.int .u8 128), .lit (.int .u8 191)], .agg [.lit (.int .u8 160), .lit (.int .u8 191)], .agg [.lit (.int .u8 128), .lit (.int .u8 159)], .agg [.lit (.int .u8 144), .lit (.int .u8 191)], .agg [.lit (.int .u8 128), .lit (.int .u8 143)], .agg [.lit (.int .u8 0), .lit (.int .u8 0)], .agg [.lit (.int .u8 0), .lit (.int .u8 0)], .agg [.lit (.int .u8 0), .lit (.int .u8 0)], .agg [.lit (.int .u8 0), .lit (.int .u8 0)], .agg [.lit (.int .u8 0), .lit (.int .u8 0)], .agg [.lit (.int .u8 0), .lit (.int .u8 0)], .agg [.lit (.int .u8 0), .lit (.int .u8 0)], .agg [.lit (.int .u8 0), .lit (.int .u8 0)], .agg [.lit (.int .u8 0), .lit (.int .u8 0)], .agg [.lit (.int .u8 0), .lit (.int .u8 0)], .agg [.lit (.int .u8 0), .lit (.int .u8 0)]]
def laid_truchman_docs_notations {H : Type} : DataW H := .agg [.agg [.lit (.int .u8 2), .lit (.bool false), .lit (.string [60]), .lit (.string [62])], .agg [.lit (.int .u8 2), .lit (.bool true), .lit (.string [60, 43]), .lit (.string [62])], .agg [.lit (.int .u8 3), .lit (.bool false), .lit (.string [60, 47]), .lit (.string [62])], .agg [.lit (.int .u8 3), .lit (.bool true), .lit (.string [60, 47, 43]), .lit (.string [62])], .agg [.lit (.int .u8 4), .lit (.bool false), .lit (.string [60]), .lit (.string [47, 62])], .agg [.lit (.int .u8 5), .lit (.bool false), .lit (.string [123]), .lit (.string [125])]]
def laid_truchman_docs_classes {H : Type} : DataW H := .agg [.lit (.int .u8 0), .lit (.int .u8 0), .lit (.int .u8 0), .lit (.int .u8 0), .lit (.int .u8 0), .lit (.int .u8 0), .lit (.int .u8 0), .lit (.int .u8 0), .lit (.int .u8 0), .lit (.int .u8 0), .lit (.int .u8 0), .lit (.int .u8 0), .lit (.int .u8 0), .lit (.int .u8 0), .lit (.int .u8 0), .lit (.int .u8 0), .lit (.int .u8 0), .lit (.int .u8 0), .lit (.int .u8 0), .lit (.int .u8 0), .lit (.int .u8 0), .lit (.int .u8 0), .lit (.int .u8 0), .lit (.int .u8 0), .lit (.int .u8 0), .lit (.int .u8 0), .lit (.int .u8 0), .lit (.int .u8 0), .lit (.int .u8 0), .lit (.int .u8 0), .lit (.int .u8 0), .lit (.int .u8 0), .lit (.int .u8 3), .lit (.int .u8 4), .lit (.int .u8 4), .lit (.int .u8 4), .lit (.int .u8 4), .lit (.int .u8 4), .lit (.int .u8 4), .lit (.int .u8 4), .lit (.int .u8 4), .lit (.int .u8 4), .lit (.int .u8 4), .lit (.int .u8 4), .lit (.int .u8 4), .lit (.int .u8 4), .lit (.int .u8 4), .lit (.int .u8 4), .lit (.int .u8 2), .lit (.int .u8 2), .lit (.int .u8 2), .lit (.int .u8 2), .lit (.int .u8 2), .lit (.int .u8 2), .lit (.int .u8 2), .lit (.int .u8 2), .lit (.int .u8 2), .lit (.int .u8 2), .lit (.int .u8 4), .lit (.int .u8 4), .lit (.int .u8 4), .lit (.int .u8 4), .lit (.int .u8 4), .lit (.int .u8 4), .lit (.int .u8 4), .lit (.int .u8 1), .lit (.int .u8 1), .lit (.int .u8 1), .lit (.int .u8 1), .lit (.int .u8 1), .lit (.int .u8 1), .lit (.int .u8 1), .lit (.int .u8 1), .lit (.int .u8 1), .lit (.int .u8 1), .lit (.int .u8 1), .lit (.int .u8 1), .lit (.int .u8 1), .lit (.int .u8 1), .lit (.int .u8 1), .lit (.int .u8 1), .lit (.int .u8 1), .lit (.int .u8 1), .lit (.int .u8 1), .lit (.int .u8 1), .lit (.int .u8 1), .lit (.int .u8 1), .lit (.int .u8 1), .lit (.int .u8 1), .lit (.int .u8 1), .lit (.int .u8 1), .lit (.int .u8 4), .lit (.int .u8 4), .lit (.int .u8 4), .lit (.int .u8 4), .lit (.int .u8 4), .lit (.int .u8 4), .lit (.int .u8 1), .lit (.int .u8 1), .lit (.int .u8 1), .lit (.int .u8 1), .lit (.int .u8 1), .lit (.int .u8 1), .lit (.int .u8 1), .lit (.int .u8 1), .lit (.int .u8 1), .lit (.int .u8 1), .lit (.int .u8 1), .lit (.int .u8 1), .lit (.int .u8 1), .lit (.int .u8 1), .lit (.int .u8 1), .lit (.int .u8 1), .lit (.int .u8 1), .lit (.int .u8 1), .lit (.int .u8 1), .lit (.int .u8 1), .lit (.int .u8 1), .lit (.int .u8 1), .lit (.int .u8 1), .lit (.int .u8 1), .lit (.int .u8 1), .lit (.int .u8 1), .lit (.int .u8 4), .lit (.int .u8 4), .lit (.int .u8 4), .lit (.int .u8 4), .lit (.int .u8 0)]
/-- One of Go's own tables, pinned by name: the form's constant. -/
def laid_unicode_utf8_first : DataW Unit := Go.Pinned.utf8First

/-- 'truchmanlaw01.DocsSegments': WHATEVER THE INPUT: true; the input reads as it did. -/
def docsSegmentsSpec : ChangeSpec := { name := "docsSegments", fn := fun _ => fun
  | [d1, d2, d3] => { results := [.lit (.bool true)], args := [d1, d2, d3] }
  | _ => none }
def docsSegmentsRow : OpenClaim := { program := "ytldapapdolkiaaagreatdoor", sum := "8e35bfa1016cc71fb3e23398329e7be771d8bb23b2bc7fdea748c326912b0b78", func := "truchman/truchmanlaw01.DocsSegments", spec := "docsSegments", inPlace := ["internal/bytealg.IndexByteString", "internal/bytealg.IndexString"], unfollowed := true, recurses := true, named := ["truchman/docs.classes", "unicode/utf8.first", "unicode/utf8.acceptRanges", "truchman/docs.notations", "internal/bytealg.MaxLen"], apart := false, laid := [("unicode/utf8.acceptRanges", laid_unicode_utf8_acceptRanges), ("truchman/docs.notations", laid_truchman_docs_notations), ("truchman/docs.classes", laid_truchman_docs_classes), ("unicode/utf8.first", laid_unicode_utf8_first)] }
def DocsSegmentsSaid : Prop := docsSegmentsRow.holds Tryz.pinned (OpenSpec.ofChange docsSegmentsSpec)

/-- ITS FALSE NEIGHBOUR: 'it returns false'. Refute it at one input. -/
def docsSegmentsWrong : ChangeSpec := { name := "docsSegments", fn := fun _ => fun
  | [d1, d2, d3] => { results := [.lit (.bool false)], args := [d1, d2, d3] }
  | _ => none }
def DocsSegmentsWrongFalsely : Prop := docsSegmentsRow.holds Tryz.pinned (OpenSpec.ofChange docsSegmentsWrong)

/-- 'truchmanlaw01.DocsRestored': WHATEVER THE INPUT: true; the input reads as it did. -/
def docsRestoredSpec : ChangeSpec := { name := "docsRestored", fn := fun _ => fun
  | [d1, d2, d3] => { results := [.lit (.bool true)], args := [d1, d2, d3] }
  | _ => none }
def docsRestoredRow : OpenClaim := { program := "ytldapapdolkiaaagreatdoor", sum := "8e35bfa1016cc71fb3e23398329e7be771d8bb23b2bc7fdea748c326912b0b78", func := "truchman/truchmanlaw01.DocsRestored", spec := "docsRestored", inPlace := ["internal/bytealg.IndexByteString", "internal/bytealg.IndexString"], unfollowed := true, recurses := true, named := ["truchman/docs.classes", "unicode/utf8.first", "unicode/utf8.acceptRanges", "truchman/docs.notations", "internal/bytealg.MaxLen"], apart := false, laid := [("unicode/utf8.acceptRanges", laid_unicode_utf8_acceptRanges), ("truchman/docs.notations", laid_truchman_docs_notations), ("truchman/docs.classes", laid_truchman_docs_classes), ("unicode/utf8.first", laid_unicode_utf8_first)] }
def DocsRestoredSaid : Prop := docsRestoredRow.holds Tryz.pinned (OpenSpec.ofChange docsRestoredSpec)

/-- ITS FALSE NEIGHBOUR: 'it returns false'. Refute it at one input. -/
def docsRestoredWrong : ChangeSpec := { name := "docsRestored", fn := fun _ => fun
  | [d1, d2, d3] => { results := [.lit (.bool false)], args := [d1, d2, d3] }
  | _ => none }
def DocsRestoredWrongFalsely : Prop := docsRestoredRow.holds Tryz.pinned (OpenSpec.ofChange docsRestoredWrong)

/-- 'truchmanlaw01.DocsProject': WHATEVER THE INPUT: true; the input reads as it did. -/
def docsProjectSpec : ChangeSpec := { name := "docsProject", fn := fun _ => fun
  | [d1, d2, d3] => { results := [.lit (.bool true)], args := [d1, d2, d3] }
  | _ => none }
def docsProjectRow : OpenClaim := { program := "ytldapapdolkiaaagreatdoor", sum := "8e35bfa1016cc71fb3e23398329e7be771d8bb23b2bc7fdea748c326912b0b78", func := "truchman/truchmanlaw01.DocsProject", spec := "docsProject", inPlace := ["internal/bytealg.IndexByteString", "internal/bytealg.IndexString"], unfollowed := true, recurses := true, named := ["truchman/docs.classes", "unicode/utf8.first", "unicode/utf8.acceptRanges", "truchman/docs.notations", "internal/bytealg.MaxLen"], apart := false, laid := [("unicode/utf8.acceptRanges", laid_unicode_utf8_acceptRanges), ("truchman/docs.notations", laid_truchman_docs_notations), ("truchman/docs.classes", laid_truchman_docs_classes), ("unicode/utf8.first", laid_unicode_utf8_first)] }
def DocsProjectSaid : Prop := docsProjectRow.holds Tryz.pinned (OpenSpec.ofChange docsProjectSpec)

/-- ITS FALSE NEIGHBOUR: 'it returns false'. Refute it at one input. -/
def docsProjectWrong : ChangeSpec := { name := "docsProject", fn := fun _ => fun
  | [d1, d2, d3] => { results := [.lit (.bool false)], args := [d1, d2, d3] }
  | _ => none }
def DocsProjectWrongFalsely : Prop := docsProjectRow.holds Tryz.pinned (OpenSpec.ofChange docsProjectWrong)

/-- 'truchmanlaw01.DocsKept': WHATEVER THE INPUT: true; the input reads as it did. -/
def docsKeptSpec : ChangeSpec := { name := "docsKept", fn := fun _ => fun
  | [d1, d2, d3] => { results := [.lit (.bool true)], args := [d1, d2, d3] }
  | _ => none }
def docsKeptRow : OpenClaim := { program := "ytldapapdolkiaaagreatdoor", sum := "8e35bfa1016cc71fb3e23398329e7be771d8bb23b2bc7fdea748c326912b0b78", func := "truchman/truchmanlaw01.DocsKept", spec := "docsKept", inPlace := ["internal/bytealg.IndexByteString", "internal/bytealg.IndexString"], unfollowed := true, recurses := true, named := ["truchman/docs.classes", "unicode/utf8.first", "unicode/utf8.acceptRanges", "truchman/docs.notations", "internal/bytealg.MaxLen"], apart := false, laid := [("unicode/utf8.acceptRanges", laid_unicode_utf8_acceptRanges), ("truchman/docs.notations", laid_truchman_docs_notations), ("truchman/docs.classes", laid_truchman_docs_classes), ("unicode/utf8.first", laid_unicode_utf8_first)] }
def DocsKeptSaid : Prop := docsKeptRow.holds Tryz.pinned (OpenSpec.ofChange docsKeptSpec)

/-- ITS FALSE NEIGHBOUR: 'it returns false'. Refute it at one input. -/
def docsKeptWrong : ChangeSpec := { name := "docsKept", fn := fun _ => fun
  | [d1, d2, d3] => { results := [.lit (.bool false)], args := [d1, d2, d3] }
  | _ => none }
def DocsKeptWrongFalsely : Prop := docsKeptRow.holds Tryz.pinned (OpenSpec.ofChange docsKeptWrong)

/- THE SECOND FORM. 'bulk': how many values and letters a reading holds, each counted each time it is reached (what is shared counts as often as it is met; a slice's spare places count too). A statement '..UptoSaid' is the law's where the arguments, and the package variables that the reading takes, are together of bulk at most 1048576: NARROWER than '..Said'. Prove '..Said' where nothing that the law and all that it calls make is longer than what came in: it says more and counts as full. Else prove '..UptoSaid'. A law counts once. -/
mutual
def uptoBulk {H : Type} : DataW H → Nat
  | .lit (.string bytes) => bytes.length + 1
  | .lit _ => 1
  | .nil => 1
  | .ptr d => uptoBulk d + 1
  | .slice elems spare => uptoBulkAll elems + uptoBulkAll spare + 1
  | .agg parts => uptoBulkAll parts + 1
  | .iface _ d => uptoBulk d + 1
  | .map entries => uptoBulkEntries entries + 1
  | .held _ => 1
def uptoBulkAll {H : Type} : List (DataW H) → Nat
  | [] => 0
  | d :: r => uptoBulk d + uptoBulkAll r
def uptoBulkEntries {H : Type} : List (Lit × DataW H) → Nat
  | [] => 0
  | x :: r => uptoBulkEntry x + uptoBulkEntries r
def uptoBulkEntry {H : Type} : Lit × DataW H → Nat
  | (.string bytes, d) => bytes.length + uptoBulk d + 1
  | (_, d) => uptoBulk d + 1
 end
def uptoSmall : (H : Type) → List (DataW H) → Bool := fun _ ds => decide (uptoBulkAll ds ≤ 1048576)
def OpenSpec.upto (s : _root_.Go.ChangeSpec) : _root_.Go.OpenSpec := { _root_.Go.OpenSpec.ofChange s with cond := some uptoSmall }

/-- 'truchmanlaw01.DocsSegments', WHERE WHAT IT READS IS OF BULK AT MOST 1048576: true; the input reads as it did. -/
def docsSegmentsUptoRow : OpenClaim := { program := "ytldapapdolkiaaagreatdoor", sum := "8e35bfa1016cc71fb3e23398329e7be771d8bb23b2bc7fdea748c326912b0b78", func := "truchman/truchmanlaw01.DocsSegments", spec := "docsSegments", inPlace := ["internal/bytealg.IndexByteString", "internal/bytealg.IndexString"], unfollowed := true, recurses := true, named := ["truchman/docs.classes", "unicode/utf8.first", "unicode/utf8.acceptRanges", "truchman/docs.notations", "internal/bytealg.MaxLen"], apart := false, laid := [("unicode/utf8.acceptRanges", laid_unicode_utf8_acceptRanges), ("truchman/docs.notations", laid_truchman_docs_notations), ("truchman/docs.classes", laid_truchman_docs_classes), ("unicode/utf8.first", laid_unicode_utf8_first)], narrowed := true }
def DocsSegmentsUptoSaid : Prop := docsSegmentsUptoRow.holds Tryz.pinned (OpenSpec.upto docsSegmentsSpec)

/-- 'truchmanlaw01.DocsRestored', WHERE WHAT IT READS IS OF BULK AT MOST 1048576: true; the input reads as it did. -/
def docsRestoredUptoRow : OpenClaim := { program := "ytldapapdolkiaaagreatdoor", sum := "8e35bfa1016cc71fb3e23398329e7be771d8bb23b2bc7fdea748c326912b0b78", func := "truchman/truchmanlaw01.DocsRestored", spec := "docsRestored", inPlace := ["internal/bytealg.IndexByteString", "internal/bytealg.IndexString"], unfollowed := true, recurses := true, named := ["truchman/docs.classes", "unicode/utf8.first", "unicode/utf8.acceptRanges", "truchman/docs.notations", "internal/bytealg.MaxLen"], apart := false, laid := [("unicode/utf8.acceptRanges", laid_unicode_utf8_acceptRanges), ("truchman/docs.notations", laid_truchman_docs_notations), ("truchman/docs.classes", laid_truchman_docs_classes), ("unicode/utf8.first", laid_unicode_utf8_first)], narrowed := true }
def DocsRestoredUptoSaid : Prop := docsRestoredUptoRow.holds Tryz.pinned (OpenSpec.upto docsRestoredSpec)

/-- 'truchmanlaw01.DocsProject', WHERE WHAT IT READS IS OF BULK AT MOST 1048576: true; the input reads as it did. -/
def docsProjectUptoRow : OpenClaim := { program := "ytldapapdolkiaaagreatdoor", sum := "8e35bfa1016cc71fb3e23398329e7be771d8bb23b2bc7fdea748c326912b0b78", func := "truchman/truchmanlaw01.DocsProject", spec := "docsProject", inPlace := ["internal/bytealg.IndexByteString", "internal/bytealg.IndexString"], unfollowed := true, recurses := true, named := ["truchman/docs.classes", "unicode/utf8.first", "unicode/utf8.acceptRanges", "truchman/docs.notations", "internal/bytealg.MaxLen"], apart := false, laid := [("unicode/utf8.acceptRanges", laid_unicode_utf8_acceptRanges), ("truchman/docs.notations", laid_truchman_docs_notations), ("truchman/docs.classes", laid_truchman_docs_classes), ("unicode/utf8.first", laid_unicode_utf8_first)], narrowed := true }
def DocsProjectUptoSaid : Prop := docsProjectUptoRow.holds Tryz.pinned (OpenSpec.upto docsProjectSpec)

/-- 'truchmanlaw01.DocsKept', WHERE WHAT IT READS IS OF BULK AT MOST 1048576: true; the input reads as it did. -/
def docsKeptUptoRow : OpenClaim := { program := "ytldapapdolkiaaagreatdoor", sum := "8e35bfa1016cc71fb3e23398329e7be771d8bb23b2bc7fdea748c326912b0b78", func := "truchman/truchmanlaw01.DocsKept", spec := "docsKept", inPlace := ["internal/bytealg.IndexByteString", "internal/bytealg.IndexString"], unfollowed := true, recurses := true, named := ["truchman/docs.classes", "unicode/utf8.first", "unicode/utf8.acceptRanges", "truchman/docs.notations", "internal/bytealg.MaxLen"], apart := false, laid := [("unicode/utf8.acceptRanges", laid_unicode_utf8_acceptRanges), ("truchman/docs.notations", laid_truchman_docs_notations), ("truchman/docs.classes", laid_truchman_docs_classes), ("unicode/utf8.first", laid_unicode_utf8_first)], narrowed := true }
def DocsKeptUptoSaid : Prop := docsKeptUptoRow.holds Tryz.pinned (OpenSpec.upto docsKeptSpec)

end Rows
end Go.Proofs.YtldapapdolkiaaaGreatDoor
