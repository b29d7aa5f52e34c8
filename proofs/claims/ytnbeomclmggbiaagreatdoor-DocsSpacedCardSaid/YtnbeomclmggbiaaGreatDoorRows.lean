/-
  NARROWER THAN 'FOR EVERY INPUT', by the rows' own cells (each row's printed sentence says how): DocsDocuments: laid · DocsParses: laid · DocsWords: laid · DocsSpaced: laid.
  DERIVED. THE GIVEN ROWS OF THIS SEAT. 4 by the template 'for every input the law returns true; each argument reads behind the call as it read before'; 0 by the template 'total and deterministic' (their statements: YtnbeomclmggbiaaGreatDoorTotals.lean).
  GIVEN WITH THE SEED: the statements are not yours to turn. If you find one false, say at which input.
  Laid BY PROGRAM, IN A SANDBOX (cutbox-rows.mjs): the forced cells as the released guide's own fill.sh prints them over the translation e99819ec2cc29fa8… (all of the seat's roots in one cut). By AI agents, Wed Nov 11 2026. No macro, syntax, notation, axiom, sorry.
-/
import Derived.Test.YtnbeomclmggbiaaGreatDoorChecked
import GoSem.PinnedTables
import GoSem.Claim
import GoSem.ClaimJoined
import GoSem.ClaimMapViews
import Derived.JoinedTies
import Derived.KernelRfl
namespace Go.Proofs.YtnbeomclmggbiaaGreatDoor
/- THE CELL 'sum', in the pinned program and in every row, IS THE sha256 OF THE DUMP (.gsa) THAT YtnbeomclmggbiaaGreatDoorProg.lean LOADS. Nothing in Lean hashes anything: it is a label: what it is worth is what the hold of that sum in a sandbox is worth. -/
noncomputable def Tryz.pinned : Pinned := { name := "ytnbeomclmggbiaagreatdoor", sum := "e99819ec2cc29fa845b75d295455906684fd880149a154f8e7a8300bc23025bd", checked := Tryz.checked }
namespace Rows
def none {H : Type} : Left H := { results := [], args := [] }

/- WHAT THE LISTED PACKAGE-LEVEL VARIABLES READ AS WHEN THE CALL BEGINS. Each datum BY PROGRAM (the guide's laid-datum.mjs) off the statement by which the dump's own 'gosem.cut.vars' lays the variable. In a bare row this is a premise. The card (YtnbeomclmggbiaaGreatDoorCards.lean) ties it to the program's text. -/
def laid_unicode_utf8_acceptRanges {H : Type} : DataW H := .agg [.agg [.lit (.int .u8 128), .lit (.int .u8 191)], .agg [.lit (.int .u8 160), .lit (.int .u8 191)], .agg [.lit (.int .u8 128), .lit (.int .u8 159)], .agg [.lit (.int .u8 144), .lit (.int .u8 191)], .agg [.lit (.int .u8 128), .lit (.int .u8 143)], .agg [.lit (.int .u8 0), .lit (.int .u8 0)], .agg [.lit (.int .u8 0), .lit (.int .u8 0)], .agg [.lit (.int .u8 0), .lit (.int .u8 0)], .agg [.lit (.int .u8 0), .lit (.int .u8 0)], .agg [.lit (.int .u8 0), .lit (.int .u8 0)], .agg [.lit (.int .u8 0), .lit (.int .u8 0)], .agg [.lit (.int .u8 0), .lit (.int .u8 0)], .agg [.lit (.int .u8 0), .lit (.int .u8 0)], .agg [.lit (.int .u8 0), .lit (.int .u8 0)], .agg [.lit (.int .u8 0), .lit (.int .u8 0)], .agg [.lit (.int .u8 0), .lit (.int .u8 0)]]
def laid_truchman_docs_blockWords {H : Type} : DataW H := .agg [.lit (.string []), .lit (.string [104, 49]), .lit (.string [104, 50]), .lit (.string [104, 51]), .lit (.string [112]), .lit (.string [108, 105]), .lit (.string [114, 97, 119])]
def laid_truchman_docs_notations {H : Type} : DataW H := .agg [.agg [.lit (.int .u8 2), .lit (.bool false), .lit (.string [60]), .lit (.string [62])], .agg [.lit (.int .u8 2), .lit (.bool true), .lit (.string [60, 43]), .lit (.string [62])], .agg [.lit (.int .u8 3), .lit (.bool false), .lit (.string [60, 47]), .lit (.string [62])], .agg [.lit (.int .u8 3), .lit (.bool true), .lit (.string [60, 47, 43]), .lit (.string [62])], .agg [.lit (.int .u8 4), .lit (.bool false), .lit (.string [60]), .lit (.string [47, 62])], .agg [.lit (.int .u8 5), .lit (.bool false), .lit (.string [123]), .lit (.string [125])]]
def laid_truchman_docs_classes {H : Type} : DataW H := .agg [.lit (.int .u8 0), .lit (.int .u8 0), .lit (.int .u8 0), .lit (.int .u8 0), .lit (.int .u8 0), .lit (.int .u8 0), .lit (.int .u8 0), .lit (.int .u8 0), .lit (.int .u8 0), .lit (.int .u8 0), .lit (.int .u8 0), .lit (.int .u8 0), .lit (.int .u8 0), .lit (.int .u8 0), .lit (.int .u8 0), .lit (.int .u8 0), .lit (.int .u8 0), .lit (.int .u8 0), .lit (.int .u8 0), .lit (.int .u8 0), .lit (.int .u8 0), .lit (.int .u8 0), .lit (.int .u8 0), .lit (.int .u8 0), .lit (.int .u8 0), .lit (.int .u8 0), .lit (.int .u8 0), .lit (.int .u8 0), .lit (.int .u8 0), .lit (.int .u8 0), .lit (.int .u8 0), .lit (.int .u8 0), .lit (.int .u8 3), .lit (.int .u8 4), .lit (.int .u8 4), .lit (.int .u8 4), .lit (.int .u8 4), .lit (.int .u8 4), .lit (.int .u8 4), .lit (.int .u8 4), .lit (.int .u8 4), .lit (.int .u8 4), .lit (.int .u8 4), .lit (.int .u8 4), .lit (.int .u8 4), .lit (.int .u8 4), .lit (.int .u8 4), .lit (.int .u8 4), .lit (.int .u8 2), .lit (.int .u8 2), .lit (.int .u8 2), .lit (.int .u8 2), .lit (.int .u8 2), .lit (.int .u8 2), .lit (.int .u8 2), .lit (.int .u8 2), .lit (.int .u8 2), .lit (.int .u8 2), .lit (.int .u8 4), .lit (.int .u8 4), .lit (.int .u8 4), .lit (.int .u8 4), .lit (.int .u8 4), .lit (.int .u8 4), .lit (.int .u8 4), .lit (.int .u8 1), .lit (.int .u8 1), .lit (.int .u8 1), .lit (.int .u8 1), .lit (.int .u8 1), .lit (.int .u8 1), .lit (.int .u8 1), .lit (.int .u8 1), .lit (.int .u8 1), .lit (.int .u8 1), .lit (.int .u8 1), .lit (.int .u8 1), .lit (.int .u8 1), .lit (.int .u8 1), .lit (.int .u8 1), .lit (.int .u8 1), .lit (.int .u8 1), .lit (.int .u8 1), .lit (.int .u8 1), .lit (.int .u8 1), .lit (.int .u8 1), .lit (.int .u8 1), .lit (.int .u8 1), .lit (.int .u8 1), .lit (.int .u8 1), .lit (.int .u8 1), .lit (.int .u8 4), .lit (.int .u8 4), .lit (.int .u8 4), .lit (.int .u8 4), .lit (.int .u8 4), .lit (.int .u8 4), .lit (.int .u8 1), .lit (.int .u8 1), .lit (.int .u8 1), .lit (.int .u8 1), .lit (.int .u8 1), .lit (.int .u8 1), .lit (.int .u8 1), .lit (.int .u8 1), .lit (.int .u8 1), .lit (.int .u8 1), .lit (.int .u8 1), .lit (.int .u8 1), .lit (.int .u8 1), .lit (.int .u8 1), .lit (.int .u8 1), .lit (.int .u8 1), .lit (.int .u8 1), .lit (.int .u8 1), .lit (.int .u8 1), .lit (.int .u8 1), .lit (.int .u8 1), .lit (.int .u8 1), .lit (.int .u8 1), .lit (.int .u8 1), .lit (.int .u8 1), .lit (.int .u8 1), .lit (.int .u8 4), .lit (.int .u8 4), .lit (.int .u8 4), .lit (.int .u8 4), .lit (.int .u8 0)]
/-- One of Go's own tables, pinned by name: the form's constant. -/
def laid_unicode_utf8_first : DataW Unit := Go.Pinned.utf8First

/-- 'truchmanlaw01.DocsDocuments': WHATEVER THE INPUT: true; the input reads as it did. -/
def docsDocumentsSpec : ChangeSpec := { name := "docsDocuments", fn := fun _ => fun
  | [d1, d2] => { results := [.lit (.bool true)], args := [d1, d2] }
  | _ => none }
def docsDocumentsRow : OpenClaim := { program := "ytnbeomclmggbiaagreatdoor", sum := "e99819ec2cc29fa845b75d295455906684fd880149a154f8e7a8300bc23025bd", func := "truchman/truchmanlaw01.DocsDocuments", spec := "docsDocuments", inPlace := ["internal/bytealg.IndexByteString", "internal/bytealg.IndexString"], unfollowed := true, recurses := true, named := ["truchman/docs.classes", "unicode/utf8.first", "unicode/utf8.acceptRanges", "truchman/docs.notations", "truchman/docs.blockWords", "internal/bytealg.MaxLen"], apart := false, laid := [("unicode/utf8.acceptRanges", laid_unicode_utf8_acceptRanges), ("truchman/docs.blockWords", laid_truchman_docs_blockWords), ("truchman/docs.notations", laid_truchman_docs_notations), ("truchman/docs.classes", laid_truchman_docs_classes), ("unicode/utf8.first", laid_unicode_utf8_first)] }
def DocsDocumentsSaid : Prop := docsDocumentsRow.holds Tryz.pinned (OpenSpec.ofChange docsDocumentsSpec)

/-- ITS FALSE NEIGHBOUR: 'it returns false'. Refute it at one input. -/
def docsDocumentsWrong : ChangeSpec := { name := "docsDocuments", fn := fun _ => fun
  | [d1, d2] => { results := [.lit (.bool false)], args := [d1, d2] }
  | _ => none }
def DocsDocumentsWrongFalsely : Prop := docsDocumentsRow.holds Tryz.pinned (OpenSpec.ofChange docsDocumentsWrong)

/-- 'truchmanlaw01.DocsParses': WHATEVER THE INPUT: true; the input reads as it did. -/
def docsParsesSpec : ChangeSpec := { name := "docsParses", fn := fun _ => fun
  | [d] => { results := [.lit (.bool true)], args := [d] }
  | _ => none }
def docsParsesRow : OpenClaim := { program := "ytnbeomclmggbiaagreatdoor", sum := "e99819ec2cc29fa845b75d295455906684fd880149a154f8e7a8300bc23025bd", func := "truchman/truchmanlaw01.DocsParses", spec := "docsParses", inPlace := ["internal/bytealg.IndexByteString", "internal/bytealg.IndexString"], unfollowed := true, recurses := true, named := ["truchman/docs.classes", "unicode/utf8.first", "unicode/utf8.acceptRanges", "truchman/docs.notations", "internal/bytealg.MaxLen", "truchman/docs.blockWords"], apart := false, laid := [("unicode/utf8.acceptRanges", laid_unicode_utf8_acceptRanges), ("truchman/docs.blockWords", laid_truchman_docs_blockWords), ("truchman/docs.notations", laid_truchman_docs_notations), ("truchman/docs.classes", laid_truchman_docs_classes), ("unicode/utf8.first", laid_unicode_utf8_first)] }
def DocsParsesSaid : Prop := docsParsesRow.holds Tryz.pinned (OpenSpec.ofChange docsParsesSpec)

/-- ITS FALSE NEIGHBOUR: 'it returns false'. Refute it at one input. -/
def docsParsesWrong : ChangeSpec := { name := "docsParses", fn := fun _ => fun
  | [d] => { results := [.lit (.bool false)], args := [d] }
  | _ => none }
def DocsParsesWrongFalsely : Prop := docsParsesRow.holds Tryz.pinned (OpenSpec.ofChange docsParsesWrong)

/-- 'truchmanlaw01.DocsWords': WHATEVER THE INPUT: true; the input reads as it did. -/
def docsWordsSpec : ChangeSpec := { name := "docsWords", fn := fun _ => fun
  | [d1, d2] => { results := [.lit (.bool true)], args := [d1, d2] }
  | _ => none }
def docsWordsRow : OpenClaim := { program := "ytnbeomclmggbiaagreatdoor", sum := "e99819ec2cc29fa845b75d295455906684fd880149a154f8e7a8300bc23025bd", func := "truchman/truchmanlaw01.DocsWords", spec := "docsWords", inPlace := ["internal/bytealg.IndexByteString", "internal/bytealg.IndexString"], unfollowed := true, recurses := true, named := ["truchman/docs.classes", "unicode/utf8.first", "unicode/utf8.acceptRanges", "truchman/docs.notations", "internal/bytealg.MaxLen"], apart := false, laid := [("unicode/utf8.acceptRanges", laid_unicode_utf8_acceptRanges), ("truchman/docs.notations", laid_truchman_docs_notations), ("truchman/docs.classes", laid_truchman_docs_classes), ("unicode/utf8.first", laid_unicode_utf8_first)] }
def DocsWordsSaid : Prop := docsWordsRow.holds Tryz.pinned (OpenSpec.ofChange docsWordsSpec)

/-- ITS FALSE NEIGHBOUR: 'it returns false'. Refute it at one input. -/
def docsWordsWrong : ChangeSpec := { name := "docsWords", fn := fun _ => fun
  | [d1, d2] => { results := [.lit (.bool false)], args := [d1, d2] }
  | _ => none }
def DocsWordsWrongFalsely : Prop := docsWordsRow.holds Tryz.pinned (OpenSpec.ofChange docsWordsWrong)

/-- 'truchmanlaw01.DocsSpaced': WHATEVER THE INPUT: true; the input reads as it did. -/
def docsSpacedSpec : ChangeSpec := { name := "docsSpaced", fn := fun _ => fun
  | [d1, d2] => { results := [.lit (.bool true)], args := [d1, d2] }
  | _ => none }
def docsSpacedRow : OpenClaim := { program := "ytnbeomclmggbiaagreatdoor", sum := "e99819ec2cc29fa845b75d295455906684fd880149a154f8e7a8300bc23025bd", func := "truchman/truchmanlaw01.DocsSpaced", spec := "docsSpaced", inPlace := ["internal/bytealg.IndexByteString", "internal/bytealg.IndexString"], unfollowed := true, recurses := true, named := ["truchman/docs.classes", "unicode/utf8.first", "unicode/utf8.acceptRanges", "truchman/docs.notations", "internal/bytealg.MaxLen"], apart := false, laid := [("unicode/utf8.acceptRanges", laid_unicode_utf8_acceptRanges), ("truchman/docs.notations", laid_truchman_docs_notations), ("truchman/docs.classes", laid_truchman_docs_classes), ("unicode/utf8.first", laid_unicode_utf8_first)] }
def DocsSpacedSaid : Prop := docsSpacedRow.holds Tryz.pinned (OpenSpec.ofChange docsSpacedSpec)

/-- ITS FALSE NEIGHBOUR: 'it returns false'. Refute it at one input. -/
def docsSpacedWrong : ChangeSpec := { name := "docsSpaced", fn := fun _ => fun
  | [d1, d2] => { results := [.lit (.bool false)], args := [d1, d2] }
  | _ => none }
def DocsSpacedWrongFalsely : Prop := docsSpacedRow.holds Tryz.pinned (OpenSpec.ofChange docsSpacedWrong)

/- THE SECOND FORM. 'bulk': how many values and letters a reading holds, each counted each time it is reached (what is shared counts as often as it is met; a slice's spare places count too). A statement '..UptoSaid' is the law's where the arguments, and the package variables that the reading takes, are together of bulk at most 1048576: NARROWER than '..Said'. Prove '..Said' where nothing that the law and all that it calls make is longer than what came in: it says more and counts as full. Else prove '..UptoSaid'. A law counts once. -/
mutual
def uptoBulk {H : Type} : DataW H → Nat
  | .lit (.string bytes) => bytes.length + 1
  | .lit _ => 1
  | .nil => 1
  | .ptr d => uptoBulk d + 1
  | .slice elems spare => uptoBulkAll elems + uptoBulkAll spare + 1
  | .agg parts => uptoBulkAll parts + 1
  | .iface _ d => uptoBulk d + 1
  | .map entries => uptoBulkEntries entries + 1
  | .held _ => 1
def uptoBulkAll {H : Type} : List (DataW H) → Nat
  | [] => 0
  | d :: r => uptoBulk d + uptoBulkAll r
def uptoBulkEntries {H : Type} : List (Lit × DataW H) → Nat
  | [] => 0
  | x :: r => uptoBulkEntry x + uptoBulkEntries r
def uptoBulkEntry {H : Type} : Lit × DataW H → Nat
  | (.string bytes, d) => bytes.length + uptoBulk d + 1
  | (_, d) => uptoBulk d + 1
 end
def uptoSmall : (H : Type) → List (DataW H) → Bool := fun _ ds => decide (uptoBulkAll ds ≤ 1048576)
def OpenSpec.upto (s : _root_.Go.ChangeSpec) : _root_.Go.OpenSpec := { _root_.Go.OpenSpec.ofChange s with cond := some uptoSmall }

/-- 'truchmanlaw01.DocsDocuments', WHERE WHAT IT READS IS OF BULK AT MOST 1048576: true; the input reads as it did. -/
def docsDocumentsUptoRow : OpenClaim := { program := "ytnbeomclmggbiaagreatdoor", sum := "e99819ec2cc29fa845b75d295455906684fd880149a154f8e7a8300bc23025bd", func := "truchman/truchmanlaw01.DocsDocuments", spec := "docsDocuments", inPlace := ["internal/bytealg.IndexByteString", "internal/bytealg.IndexString"], unfollowed := true, recurses := true, named := ["truchman/docs.classes", "unicode/utf8.first", "unicode/utf8.acceptRanges", "truchman/docs.notations", "truchman/docs.blockWords", "internal/bytealg.MaxLen"], apart := false, laid := [("unicode/utf8.acceptRanges", laid_unicode_utf8_acceptRanges), ("truchman/docs.blockWords", laid_truchman_docs_blockWords), ("truchman/docs.notations", laid_truchman_docs_notations), ("truchman/docs.classes", laid_truchman_docs_classes), ("unicode/utf8.first", laid_unicode_utf8_first)], narrowed := true }
def DocsDocumentsUptoSaid : Prop := docsDocumentsUptoRow.holds Tryz.pinned (OpenSpec.upto docsDocumentsSpec)

/-- 'truchmanlaw01.DocsParses', WHERE WHAT IT READS IS OF BULK AT MOST 1048576: true; the input reads as it did. -/
def docsParsesUptoRow : OpenClaim := { program := "ytnbeomclmggbiaagreatdoor", sum := "e99819ec2cc29fa845b75d295455906684fd880149a154f8e7a8300bc23025bd", func := "truchman/truchmanlaw01.DocsParses", spec := "docsParses", inPlace := ["internal/bytealg.IndexByteString", "internal/bytealg.IndexString"], unfollowed := true, recurses := true, named := ["truchman/docs.classes", "unicode/utf8.first", "unicode/utf8.acceptRanges", "truchman/docs.notations", "internal/bytealg.MaxLen", "truchman/docs.blockWords"], apart := false, laid := [("unicode/utf8.acceptRanges", laid_unicode_utf8_acceptRanges), ("truchman/docs.blockWords", laid_truchman_docs_blockWords), ("truchman/docs.notations", laid_truchman_docs_notations), ("truchman/docs.classes", laid_truchman_docs_classes), ("unicode/utf8.first", laid_unicode_utf8_first)], narrowed := true }
def DocsParsesUptoSaid : Prop := docsParsesUptoRow.holds Tryz.pinned (OpenSpec.upto docsParsesSpec)

/-- 'truchmanlaw01.DocsWords', WHERE WHAT IT READS IS OF BULK AT MOST 1048576: true; the input reads as it did. -/
def docsWordsUptoRow : OpenClaim := { program := "ytnbeomclmggbiaagreatdoor", sum := "e99819ec2cc29fa845b75d295455906684fd880149a154f8e7a8300bc23025bd", func := "truchman/truchmanlaw01.DocsWords", spec := "docsWords", inPlace := ["internal/bytealg.IndexByteString", "internal/bytealg.IndexString"], unfollowed := true, recurses := true, named := ["truchman/docs.classes", "unicode/utf8.first", "unicode/utf8.acceptRanges", "truchman/docs.notations", "internal/bytealg.MaxLen"], apart := false, laid := [("unicode/utf8.acceptRanges", laid_unicode_utf8_acceptRanges), ("truchman/docs.notations", laid_truchman_docs_notations), ("truchman/docs.classes", laid_truchman_docs_classes), ("unicode/utf8.first", laid_unicode_utf8_first)], narrowed := true }
def DocsWordsUptoSaid : Prop := docsWordsUptoRow.holds Tryz.pinned (OpenSpec.upto docsWordsSpec)

/-- 'truchmanlaw01.DocsSpaced', WHERE WHAT IT READS IS OF BULK AT MOST 1048576: true; the input reads as it did. -/
def docsSpacedUptoRow : OpenClaim := { program := "ytnbeomclmggbiaagreatdoor", sum := "e99819ec2cc29fa845b75d295455906684fd880149a154f8e7a8300bc23025bd", func := "truchman/truchmanlaw01.DocsSpaced", spec := "docsSpaced", inPlace := ["internal/bytealg.IndexByteString", "internal/bytealg.IndexString"], unfollowed := true, recurses := true, named := ["truchman/docs.classes", "unicode/utf8.first", "unicode/utf8.acceptRanges", "truchman/docs.notations", "internal/bytealg.MaxLen"], apart := false, laid := [("unicode/utf8.acceptRanges", laid_unicode_utf8_acceptRanges), ("truchman/docs.notations", laid_truchman_docs_notations), ("truchman/docs.classes", laid_truchman_docs_classes), ("unicode/utf8.first", laid_unicode_utf8_first)], narrowed := true }
def DocsSpacedUptoSaid : Prop := docsSpacedUptoRow.holds Tryz.pinned (OpenSpec.upto docsSpacedSpec)

end Rows
end Go.Proofs.YtnbeomclmggbiaaGreatDoor
