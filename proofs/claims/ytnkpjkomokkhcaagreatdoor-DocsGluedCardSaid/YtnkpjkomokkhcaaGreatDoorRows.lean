/-
  NARROWER THAN 'FOR EVERY INPUT', by the rows' own cells (each row's printed sentence says how): DocsCuts: laid · DocsGlued: laid · DocsBreaks: laid · DocsFits: laid.
  DERIVED. THE GIVEN ROWS OF THIS SEAT. 4 by the template 'for every input the law returns true; each argument reads behind the call as it read before'; 0 by the template 'total and deterministic' (their statements: YtnkpjkomokkhcaaGreatDoorTotals.lean).
  GIVEN WITH THE SEED: the statements are not yours to turn. If you find one false, say at which input.
  Laid BY PROGRAM, IN A SANDBOX (cutbox-rows.mjs): the forced cells as the released guide's own fill.sh prints them over the translation 10cc55eb5801dc17… (all of the seat's roots in one cut). By AI agents, Wed Nov 11 2026. No macro, syntax, notation, axiom, sorry.
-/
import Derived.Test.YtnkpjkomokkhcaaGreatDoorChecked
import GoSem.PinnedTables
import GoSem.Claim
import GoSem.ClaimJoined
import GoSem.ClaimMapViews
import Derived.JoinedTies
import Derived.KernelRfl
namespace Go.Proofs.YtnkpjkomokkhcaaGreatDoor
/- THE CELL 'sum', in the pinned program and in every row, IS THE sha256 OF THE DUMP (.gsa) THAT YtnkpjkomokkhcaaGreatDoorProg.lean LOADS. Nothing in Lean hashes anything: it is a label: what it is worth is what the hold of that sum in a sandbox is worth. -/
noncomputable def Tryz.pinned : Pinned := { name := "ytnkpjkomokkhcaagreatdoor", sum := "10cc55eb5801dc17241636f3044a83347de0fa8e94cc7b5f9351032a6cb87319", checked := Tryz.checked }
namespace Rows
def none {H : Type} : Left H := { results := [], args := [] }

/- WHAT THE LISTED PACKAGE-LEVEL VARIABLES READ AS WHEN THE CALL BEGINS. Each datum BY PROGRAM (the guide's laid-datum.mjs) off the statement by which the dump's own 'gosem.cut.vars' lays the variable. In a bare row this is a premise. The card (YtnkpjkomokkhcaaGreatDoorCards.lean) ties it to the program's text. -/
def laid_unicode_utf8_acceptRanges {H : Type} : DataW H := .agg [.agg [.lit (.int .u8 128), .lit (.int .u8 191)], .agg [.lit (.int .u8 160), .lit (.int .u8 191)], .agg [.lit (.int .u8 128), .lit (.int .u8 159)], .agg [.lit (.int .u8 144), .lit (.int .u8 191)], .agg [.lit (.int .u8 128), .lit (.int .u8 143)], .agg [.lit (.int .u8 0), .lit (.int .u8 0)], .agg [.lit (.int .u8 0), .lit (.int .u8 0)], .agg [.lit (.int .u8 0), .lit (.int .u8 0)], .agg [.lit (.int .u8 0), .lit (.int .u8 0)], .agg [.lit (.int .u8 0), .lit (.int .u8 0)], .agg [.lit (.int .u8 0), .lit (.int .u8 0)], .agg [.lit (.int .u8 0), .lit (.int .u8 0)], .agg [.lit (.int .u8 0), .lit (.int .u8 0)], .agg [.lit (.int .u8 0), .lit (.int .u8 0)], .agg [.lit (.int .u8 0), .lit (.int .u8 0)], .agg [.lit (.int .u8 0), .lit (.int .u8 0)]]
def laid_truchman_docs_notations {H : Type} : DataW H := .agg [.agg [.lit (.int .u8 2), .lit (.bool false), .lit (.string [60]), .lit (.string [62])], .agg [.lit (.int .u8 2), .lit (.bool true), .lit (.string [60, 43]), .lit (.string [62])], .agg [.lit (.int .u8 3), .lit (.bool false), .lit (.string [60, 47]), .lit (.string [62])], .agg [.lit (.int .u8 3), .lit (.bool true), .lit (.string [60, 47, 43]), .lit (.string [62])], .agg [.lit (.int .u8 4), .lit (.bool false), .lit (.string [60]), .lit (.string [47, 62])], .agg [.lit (.int .u8 5), .lit (.bool false), .lit (.string [123]), .lit (.string [125])]]
def laid_truchman_docs_classes {H : Type} : DataW H := .agg [.lit (.int .u8 0), .lit (.int .u8 0), .lit (.int .u8 0), .lit (.int .u8 0), .lit (.int .u8 0), .lit (.int .u8 0), .lit (.int .u8 0), .lit (.int .u8 0), .lit (.int .u8 0), .lit (.int .u8 0), .lit (.int .u8 0), .lit (.int .u8 0), .lit (.int .u8 0), .lit (.int .u8 0), .lit (.int .u8 0), .lit (.int .u8 0), .lit (.int .u8 0), .lit (.int .u8 0), .lit (.int .u8 0), .lit (.int .u8 0), .lit (.int .u8 0), .lit (.int .u8 0), .lit (.int .u8 0), .lit (.int .u8 0), .lit (.int .u8 0), .lit (.int .u8 0), .lit (.int .u8 0), .lit (.int .u8 0), .lit (.int .u8 0), .lit (.int .u8 0), .lit (.int .u8 0), .lit (.int .u8 0), .lit (.int .u8 3), .lit (.int .u8 4), .lit (.int .u8 4), .lit (.int .u8 4), .lit (.int .u8 4), .lit (.int .u8 4), .lit (.int .u8 4), .lit (.int .u8 4), .lit (.int .u8 4), .lit (.int .u8 4), .lit (.int .u8 4), .lit (.int .u8 4), .lit (.int .u8 4), .lit (.int .u8 4), .lit (.int .u8 4), .lit (.int .u8 4), .lit (.int .u8 2), .lit (.int .u8 2), .lit (.int .u8 2), .lit (.int .u8 2), .lit (.int .u8 2), .lit (.int .u8 2), .lit (.int .u8 2), .lit (.int .u8 2), .lit (.int .u8 2), .lit (.int .u8 2), .lit (.int .u8 4), .lit (.int .u8 4), .lit (.int .u8 4), .lit (.int .u8 4), .lit (.int .u8 4), .lit (.int .u8 4), .lit (.int .u8 4), .lit (.int .u8 1), .lit (.int .u8 1), .lit (.int .u8 1), .lit (.int .u8 1), .lit (.int .u8 1), .lit (.int .u8 1), .lit (.int .u8 1), .lit (.int .u8 1), .lit (.int .u8 1), .lit (.int .u8 1), .lit (.int .u8 1), .lit (.int .u8 1), .lit (.int .u8 1), .lit (.int .u8 1), .lit (.int .u8 1), .lit (.int .u8 1), .lit (.int .u8 1), .lit (.int .u8 1), .lit (.int .u8 1), .lit (.int .u8 1), .lit (.int .u8 1), .lit (.int .u8 1), .lit (.int .u8 1), .lit (.int .u8 1), .lit (.int .u8 1), .lit (.int .u8 1), .lit (.int .u8 4), .lit (.int .u8 4), .lit (.int .u8 4), .lit (.int .u8 4), .lit (.int .u8 4), .lit (.int .u8 4), .lit (.int .u8 1), .lit (.int .u8 1), .lit (.int .u8 1), .lit (.int .u8 1), .lit (.int .u8 1), .lit (.int .u8 1), .lit (.int .u8 1), .lit (.int .u8 1), .lit (.int .u8 1), .lit (.int .u8 1), .lit (.int .u8 1), .lit (.int .u8 1), .lit (.int .u8 1), .lit (.int .u8 1), .lit (.int .u8 1), .lit (.int .u8 1), .lit (.int .u8 1), .lit (.int .u8 1), .lit (.int .u8 1), .lit (.int .u8 1), .lit (.int .u8 1), .lit (.int .u8 1), .lit (.int .u8 1), .lit (.int .u8 1), .lit (.int .u8 1), .lit (.int .u8 1), .lit (.int .u8 4), .lit (.int .u8 4), .lit (.int .u8 4), .lit (.int .u8 4), .lit (.int .u8 0)]
/-- One of Go's own tables, pinned by name: the form's constant. -/
def laid_unicode_utf8_first : DataW Unit := Go.Pinned.utf8First

/-- 'truchmanlaw01.DocsCuts': WHATEVER THE INPUT: true; the input reads as it did. -/
def docsCutsSpec : ChangeSpec := { name := "docsCuts", fn := fun _ => fun
  | [d1, d2, d3] => { results := [.lit (.bool true)], args := [d1, d2, d3] }
  | _ => none }
def docsCutsRow : OpenClaim := { program := "ytnkpjkomokkhcaagreatdoor", sum := "10cc55eb5801dc17241636f3044a83347de0fa8e94cc7b5f9351032a6cb87319", func := "truchman/truchmanlaw01.DocsCuts", spec := "docsCuts", inPlace := ["internal/bytealg.IndexByteString", "internal/bytealg.IndexString"], unfollowed := true, recurses := true, named := ["truchman/docs.classes", "unicode/utf8.first", "unicode/utf8.acceptRanges", "truchman/docs.notations", "internal/bytealg.MaxLen"], apart := false, laid := [("unicode/utf8.acceptRanges", laid_unicode_utf8_acceptRanges), ("truchman/docs.notations", laid_truchman_docs_notations), ("truchman/docs.classes", laid_truchman_docs_classes), ("unicode/utf8.first", laid_unicode_utf8_first)] }
def DocsCutsSaid : Prop := docsCutsRow.holds Tryz.pinned (OpenSpec.ofChange docsCutsSpec)

/-- ITS FALSE NEIGHBOUR: 'it returns false'. Refute it at one input. -/
def docsCutsWrong : ChangeSpec := { name := "docsCuts", fn := fun _ => fun
  | [d1, d2, d3] => { results := [.lit (.bool false)], args := [d1, d2, d3] }
  | _ => none }
def DocsCutsWrongFalsely : Prop := docsCutsRow.holds Tryz.pinned (OpenSpec.ofChange docsCutsWrong)

/-- 'truchmanlaw01.DocsGlued': WHATEVER THE INPUT: true; the input reads as it did. -/
def docsGluedSpec : ChangeSpec := { name := "docsGlued", fn := fun _ => fun
  | [d1, d2, d3] => { results := [.lit (.bool true)], args := [d1, d2, d3] }
  | _ => none }
def docsGluedRow : OpenClaim := { program := "ytnkpjkomokkhcaagreatdoor", sum := "10cc55eb5801dc17241636f3044a83347de0fa8e94cc7b5f9351032a6cb87319", func := "truchman/truchmanlaw01.DocsGlued", spec := "docsGlued", inPlace := ["internal/bytealg.IndexByteString", "internal/bytealg.IndexString", "internal/abi.NoEscape"], unfollowed := true, recurses := true, named := ["truchman/docs.classes", "unicode/utf8.first", "unicode/utf8.acceptRanges", "truchman/docs.notations", "internal/bytealg.MaxLen"], apart := false, laid := [("unicode/utf8.acceptRanges", laid_unicode_utf8_acceptRanges), ("truchman/docs.notations", laid_truchman_docs_notations), ("truchman/docs.classes", laid_truchman_docs_classes), ("unicode/utf8.first", laid_unicode_utf8_first)] }
def DocsGluedSaid : Prop := docsGluedRow.holds Tryz.pinned (OpenSpec.ofChange docsGluedSpec)

/-- ITS FALSE NEIGHBOUR: 'it returns false'. Refute it at one input. -/
def docsGluedWrong : ChangeSpec := { name := "docsGlued", fn := fun _ => fun
  | [d1, d2, d3] => { results := [.lit (.bool false)], args := [d1, d2, d3] }
  | _ => none }
def DocsGluedWrongFalsely : Prop := docsGluedRow.holds Tryz.pinned (OpenSpec.ofChange docsGluedWrong)

/-- 'truchmanlaw01.DocsBreaks': WHATEVER THE INPUT: true; the input reads as it did. -/
def docsBreaksSpec : ChangeSpec := { name := "docsBreaks", fn := fun _ => fun
  | [d1, d2] => { results := [.lit (.bool true)], args := [d1, d2] }
  | _ => none }
def docsBreaksRow : OpenClaim := { program := "ytnkpjkomokkhcaagreatdoor", sum := "10cc55eb5801dc17241636f3044a83347de0fa8e94cc7b5f9351032a6cb87319", func := "truchman/truchmanlaw01.DocsBreaks", spec := "docsBreaks", inPlace := ["internal/bytealg.IndexByteString", "internal/bytealg.IndexString"], unfollowed := true, recurses := true, named := ["truchman/docs.classes", "unicode/utf8.first", "unicode/utf8.acceptRanges", "truchman/docs.notations", "internal/bytealg.MaxLen"], apart := false, laid := [("unicode/utf8.acceptRanges", laid_unicode_utf8_acceptRanges), ("truchman/docs.notations", laid_truchman_docs_notations), ("truchman/docs.classes", laid_truchman_docs_classes), ("unicode/utf8.first", laid_unicode_utf8_first)] }
def DocsBreaksSaid : Prop := docsBreaksRow.holds Tryz.pinned (OpenSpec.ofChange docsBreaksSpec)

/-- ITS FALSE NEIGHBOUR: 'it returns false'. Refute it at one input. -/
def docsBreaksWrong : ChangeSpec := { name := "docsBreaks", fn := fun _ => fun
  | [d1, d2] => { results := [.lit (.bool false)], args := [d1, d2] }
  | _ => none }
def DocsBreaksWrongFalsely : Prop := docsBreaksRow.holds Tryz.pinned (OpenSpec.ofChange docsBreaksWrong)

/-- 'truchmanlaw01.DocsFits': WHATEVER THE INPUT: true; the input reads as it did. -/
def docsFitsSpec : ChangeSpec := { name := "docsFits", fn := fun _ => fun
  | [d1, d2] => { results := [.lit (.bool true)], args := [d1, d2] }
  | _ => none }
def docsFitsRow : OpenClaim := { program := "ytnkpjkomokkhcaagreatdoor", sum := "10cc55eb5801dc17241636f3044a83347de0fa8e94cc7b5f9351032a6cb87319", func := "truchman/truchmanlaw01.DocsFits", spec := "docsFits", inPlace := ["internal/bytealg.IndexByteString", "internal/bytealg.IndexString"], unfollowed := true, recurses := true, named := ["truchman/docs.classes", "unicode/utf8.first", "unicode/utf8.acceptRanges", "truchman/docs.notations", "internal/bytealg.MaxLen"], apart := false, laid := [("unicode/utf8.acceptRanges", laid_unicode_utf8_acceptRanges), ("truchman/docs.notations", laid_truchman_docs_notations), ("truchman/docs.classes", laid_truchman_docs_classes), ("unicode/utf8.first", laid_unicode_utf8_first)] }
def DocsFitsSaid : Prop := docsFitsRow.holds Tryz.pinned (OpenSpec.ofChange docsFitsSpec)

/-- ITS FALSE NEIGHBOUR: 'it returns false'. Refute it at one input. -/
def docsFitsWrong : ChangeSpec := { name := "docsFits", fn := fun _ => fun
  | [d1, d2] => { results := [.lit (.bool false)], args := [d1, d2] }
  | _ => none }
def DocsFitsWrongFalsely : Prop := docsFitsRow.holds Tryz.pinned (OpenSpec.ofChange docsFitsWrong)

/- THE SECOND FORM. 'bulk': how many values and letters a reading holds, each counted each time it is reached (what is shared counts as often as it is met; a slice's spare places count too). A statement '..UptoSaid' is the law's where the arguments, and the package variables that the reading takes, are together of bulk at most 1048576: NARROWER than '..Said'. Prove '..Said' where nothing that the law and all that it calls make is longer than what came in: it says more and counts as full. Else prove '..UptoSaid'. A law counts once. -/
mutual
def uptoBulk {H : Type} : DataW H → Nat
  | .lit (.string bytes) => bytes.length + 1
  | .lit _ => 1
  | .nil => 1
  | .ptr d => uptoBulk d + 1
  | .slice elems spare => uptoBulkAll elems + uptoBulkAll spare + 1
  | .agg parts => uptoBulkAll parts + 1
  | .iface _ d => uptoBulk d + 1
  | .map entries => uptoBulkEntries entries + 1
  | .held _ => 1
def uptoBulkAll {H : Type} : List (DataW H) → Nat
  | [] => 0
  | d :: r => uptoBulk d + uptoBulkAll r
def uptoBulkEntries {H : Type} : List (Lit × DataW H) → Nat
  | [] => 0
  | x :: r => uptoBulkEntry x + uptoBulkEntries r
def uptoBulkEntry {H : Type} : Lit × DataW H → Nat
  | (.string bytes, d) => bytes.length + uptoBulk d + 1
  | (_, d) => uptoBulk d + 1
 end
def uptoSmall : (H : Type) → List (DataW H) → Bool := fun _ ds => decide (uptoBulkAll ds ≤ 1048576)
def OpenSpec.upto (s : _root_.Go.ChangeSpec) : _root_.Go.OpenSpec := { _root_.Go.OpenSpec.ofChange s with cond := some uptoSmall }

/-- 'truchmanlaw01.DocsCuts', WHERE WHAT IT READS IS OF BULK AT MOST 1048576: true; the input reads as it did. -/
def docsCutsUptoRow : OpenClaim := { program := "ytnkpjkomokkhcaagreatdoor", sum := "10cc55eb5801dc17241636f3044a83347de0fa8e94cc7b5f9351032a6cb87319", func := "truchman/truchmanlaw01.DocsCuts", spec := "docsCuts", inPlace := ["internal/bytealg.IndexByteString", "internal/bytealg.IndexString"], unfollowed := true, recurses := true, named := ["truchman/docs.classes", "unicode/utf8.first", "unicode/utf8.acceptRanges", "truchman/docs.notations", "internal/bytealg.MaxLen"], apart := false, laid := [("unicode/utf8.acceptRanges", laid_unicode_utf8_acceptRanges), ("truchman/docs.notations", laid_truchman_docs_notations), ("truchman/docs.classes", laid_truchman_docs_classes), ("unicode/utf8.first", laid_unicode_utf8_first)], narrowed := true }
def DocsCutsUptoSaid : Prop := docsCutsUptoRow.holds Tryz.pinned (OpenSpec.upto docsCutsSpec)

/-- 'truchmanlaw01.DocsGlued', WHERE WHAT IT READS IS OF BULK AT MOST 1048576: true; the input reads as it did. -/
def docsGluedUptoRow : OpenClaim := { program := "ytnkpjkomokkhcaagreatdoor", sum := "10cc55eb5801dc17241636f3044a83347de0fa8e94cc7b5f9351032a6cb87319", func := "truchman/truchmanlaw01.DocsGlued", spec := "docsGlued", inPlace := ["internal/bytealg.IndexByteString", "internal/bytealg.IndexString", "internal/abi.NoEscape"], unfollowed := true, recurses := true, named := ["truchman/docs.classes", "unicode/utf8.first", "unicode/utf8.acceptRanges", "truchman/docs.notations", "internal/bytealg.MaxLen"], apart := false, laid := [("unicode/utf8.acceptRanges", laid_unicode_utf8_acceptRanges), ("truchman/docs.notations", laid_truchman_docs_notations), ("truchman/docs.classes", laid_truchman_docs_classes), ("unicode/utf8.first", laid_unicode_utf8_first)], narrowed := true }
def DocsGluedUptoSaid : Prop := docsGluedUptoRow.holds Tryz.pinned (OpenSpec.upto docsGluedSpec)

/-- 'truchmanlaw01.DocsBreaks', WHERE WHAT IT READS IS OF BULK AT MOST 1048576: true; the input reads as it did. -/
def docsBreaksUptoRow : OpenClaim := { program := "ytnkpjkomokkhcaagreatdoor", sum := "10cc55eb5801dc17241636f3044a83347de0fa8e94cc7b5f9351032a6cb87319", func := "truchman/truchmanlaw01.DocsBreaks", spec := "docsBreaks", inPlace := ["internal/bytealg.IndexByteString", "internal/bytealg.IndexString"], unfollowed := true, recurses := true, named := ["truchman/docs.classes", "unicode/utf8.first", "unicode/utf8.acceptRanges", "truchman/docs.notations", "internal/bytealg.MaxLen"], apart := false, laid := [("unicode/utf8.acceptRanges", laid_unicode_utf8_acceptRanges), ("truchman/docs.notations", laid_truchman_docs_notations), ("truchman/docs.classes", laid_truchman_docs_classes), ("unicode/utf8.first", laid_unicode_utf8_first)], narrowed := true }
def DocsBreaksUptoSaid : Prop := docsBreaksUptoRow.holds Tryz.pinned (OpenSpec.upto docsBreaksSpec)

/-- 'truchmanlaw01.DocsFits', WHERE WHAT IT READS IS OF BULK AT MOST 1048576: true; the input reads as it did. -/
def docsFitsUptoRow : OpenClaim := { program := "ytnkpjkomokkhcaagreatdoor", sum := "10cc55eb5801dc17241636f3044a83347de0fa8e94cc7b5f9351032a6cb87319", func := "truchman/truchmanlaw01.DocsFits", spec := "docsFits", inPlace := ["internal/bytealg.IndexByteString", "internal/bytealg.IndexString"], unfollowed := true, recurses := true, named := ["truchman/docs.classes", "unicode/utf8.first", "unicode/utf8.acceptRanges", "truchman/docs.notations", "internal/bytealg.MaxLen"], apart := false, laid := [("unicode/utf8.acceptRanges", laid_unicode_utf8_acceptRanges), ("truchman/docs.notations", laid_truchman_docs_notations), ("truchman/docs.classes", laid_truchman_docs_classes), ("unicode/utf8.first", laid_unicode_utf8_first)], narrowed := true }
def DocsFitsUptoSaid : Prop := docsFitsUptoRow.holds Tryz.pinned (OpenSpec.upto docsFitsSpec)

end Rows
end Go.Proofs.YtnkpjkomokkhcaaGreatDoor
