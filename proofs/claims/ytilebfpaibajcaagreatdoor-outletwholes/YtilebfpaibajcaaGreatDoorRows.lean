/-
  NARROWER THAN 'FOR EVERY INPUT', by the rows' own cells (each row's printed sentence says how): OutletActs: laid · OutletWhole: laid · OutletWholes: laid.
  DERIVED. THE GIVEN ROWS OF THIS SEAT. 3 by the template 'for every input the law returns true; each argument reads behind the call as it read before'; 0 by the template 'total and deterministic' (their statements: YtilebfpaibajcaaGreatDoorTotals.lean).
  GIVEN WITH THE SEED: the statements are not yours to turn. If you find one false, say at which input.
  Laid BY PROGRAM, IN A SANDBOX (cutbox-rows.mjs): the forced cells as the released guide's own fill.sh prints them over the translation a2a0bfc83708a832… (all of the seat's roots in one cut). By AI agents, Wed Nov 11 2026. No macro, syntax, notation, axiom, sorry.
-/
import Derived.Test.YtilebfpaibajcaaGreatDoorChecked
import GoSem.PinnedTables
import GoSem.Claim
import GoSem.ClaimJoined
import GoSem.ClaimMapViews
import Derived.JoinedTies
import Derived.KernelRfl
namespace Go.Proofs.YtilebfpaibajcaaGreatDoor
/- THE CELL 'sum', in the pinned program and in every row, IS THE sha256 OF THE DUMP (.gsa) THAT YtilebfpaibajcaaGreatDoorProg.lean LOADS. Nothing in Lean hashes anything: it is a label: what it is worth is what the hold of that sum in a sandbox is worth. -/
noncomputable def Tryz.pinned : Pinned := { name := "ytilebfpaibajcaagreatdoor", sum := "a2a0bfc83708a832ae3ab2fcfa307af52ed366446f4ae9ea8fc400f0a2f7fb47", checked := Tryz.checked }
namespace Rows
def none {H : Type} : Left H := { results := [], args := [] }

/- WHAT THE LISTED PACKAGE-LEVEL VARIABLES READ AS WHEN THE CALL BEGINS. Each datum BY PROGRAM (the guide's laid-datum.mjs) off the statement by which the dump's own 'gosem.cut.vars' lays the variable. In a bare row this is a premise. The card (YtilebfpaibajcaaGreatDoorCards.lean) ties it to the program's text. -/
def laid_catchpit_filter_names {H : Type} : DataW H := .agg [.lit (.string [65, 117, 116, 104, 111, 114, 105, 122, 97, 116, 105, 111, 110]), .lit (.string [67, 97, 99, 104, 101, 45, 67, 111, 110, 116, 114, 111, 108]), .lit (.string [67, 111, 110, 110, 101, 99, 116, 105, 111, 110]), .lit (.string [67, 111, 110, 116, 101, 110, 116, 45, 69, 110, 99, 111, 100, 105, 110, 103]), .lit (.string [67, 111, 110, 116, 101, 110, 116, 45, 76, 101, 110, 103, 116, 104]), .lit (.string [67, 111, 110, 116, 101, 110, 116, 45, 82, 97, 110, 103, 101]), .lit (.string [67, 111, 110, 116, 101, 110, 116, 45, 84, 121, 112, 101]), .lit (.string [67, 111, 111, 107, 105, 101]), .lit (.string [69, 120, 112, 101, 99, 116]), .lit (.string [72, 111, 115, 116]), .lit (.string [73, 102, 45, 77, 97, 116, 99, 104]), .lit (.string [73, 102, 45, 77, 111, 100, 105, 102, 105, 101, 100, 45, 83, 105, 110, 99, 101]), .lit (.string [73, 102, 45, 78, 111, 110, 101, 45, 77, 97, 116, 99, 104]), .lit (.string [73, 102, 45, 82, 97, 110, 103, 101]), .lit (.string [73, 102, 45, 85, 110, 109, 111, 100, 105, 102, 105, 101, 100, 45, 83, 105, 110, 99, 101]), .lit (.string [75, 101, 101, 112, 45, 65, 108, 105, 118, 101]), .lit (.string [77, 97, 120, 45, 70, 111, 114, 119, 97, 114, 100, 115]), .lit (.string [80, 114, 97, 103, 109, 97]), .lit (.string [80, 114, 111, 120, 121, 45, 65, 117, 116, 104, 101, 110, 116, 105, 99, 97, 116, 101]), .lit (.string [80, 114, 111, 120, 121, 45, 65, 117, 116, 104, 111, 114, 105, 122, 97, 116, 105, 111, 110]), .lit (.string [80, 114, 111, 120, 121, 45, 67, 111, 110, 110, 101, 99, 116, 105, 111, 110]), .lit (.string [82, 97, 110, 103, 101]), .lit (.string [83, 101, 116, 45, 67, 111, 111, 107, 105, 101]), .lit (.string [84, 69]), .lit (.string [84, 114, 97, 105, 108, 101, 114]), .lit (.string [84, 114, 97, 110, 115, 102, 101, 114, 45, 69, 110, 99, 111, 100, 105, 110, 103]), .lit (.string [85, 112, 103, 114, 97, 100, 101]), .lit (.string [87, 87, 87, 45, 65, 117, 116, 104, 101, 110, 116, 105, 99, 97, 116, 101])]
def laid_unicode_utf8_acceptRanges {H : Type} : DataW H := .agg [.agg [.lit (.int .u8 128), .lit (.int .u8 191)], .agg [.lit (.int .u8 160), .lit (.int .u8 191)], .agg [.lit (.int .u8 128), .lit (.int .u8 159)], .agg [.lit (.int .u8 144), .lit (.int .u8 191)], .agg [.lit (.int .u8 128), .lit (.int .u8 143)], .agg [.lit (.int .u8 0), .lit (.int .u8 0)], .agg [.lit (.int .u8 0), .lit (.int .u8 0)], .agg [.lit (.int .u8 0), .lit (.int .u8 0)], .agg [.lit (.int .u8 0), .lit (.int .u8 0)], .agg [.lit (.int .u8 0), .lit (.int .u8 0)], .agg [.lit (.int .u8 0), .lit (.int .u8 0)], .agg [.lit (.int .u8 0), .lit (.int .u8 0)], .agg [.lit (.int .u8 0), .lit (.int .u8 0)], .agg [.lit (.int .u8 0), .lit (.int .u8 0)], .agg [.lit (.int .u8 0), .lit (.int .u8 0)], .agg [.lit (.int .u8 0), .lit (.int .u8 0)]]
def laid_catchpit_octet_wordSpans {H : Type} : DataW H := .agg [.agg [.lit (.int .u8 48), .lit (.int .u8 57)], .agg [.lit (.int .u8 65), .lit (.int .u8 90)], .agg [.lit (.int .u8 97), .lit (.int .u8 122)]]
/-- One of Go's own tables, pinned by name: the form's constant. -/
def laid_unicode_utf8_first : DataW Unit := Go.Pinned.utf8First

/-- 'catchpitlaw14.OutletActs': WHATEVER THE INPUT: true; the input reads as it did. -/
def outletActsSpec : ChangeSpec := { name := "outletActs", fn := fun _ => fun
  | [d1, d2] => { results := [.lit (.bool true)], args := [d1, d2] }
  | _ => none }
def outletActsRow : OpenClaim := { program := "ytilebfpaibajcaagreatdoor", sum := "a2a0bfc83708a832ae3ab2fcfa307af52ed366446f4ae9ea8fc400f0a2f7fb47", func := "catchpit/catchpitlaw14.OutletActs", spec := "outletActs", unfollowed := true, recurses := true, named := ["catchpit/filter.names"], apart := false, laid := [("catchpit/filter.names", laid_catchpit_filter_names)] }
def OutletActsSaid : Prop := outletActsRow.holds Tryz.pinned (OpenSpec.ofChange outletActsSpec)

/-- ITS FALSE NEIGHBOUR: 'it returns false'. Refute it at one input. -/
def outletActsWrong : ChangeSpec := { name := "outletActs", fn := fun _ => fun
  | [d1, d2] => { results := [.lit (.bool false)], args := [d1, d2] }
  | _ => none }
def OutletActsWrongFalsely : Prop := outletActsRow.holds Tryz.pinned (OpenSpec.ofChange outletActsWrong)

/-- 'catchpitlaw14.OutletWhole': WHATEVER THE INPUT: true; the input reads as it did. -/
def outletWholeSpec : ChangeSpec := { name := "outletWhole", fn := fun _ => fun
  | [d1, d2] => { results := [.lit (.bool true)], args := [d1, d2] }
  | _ => none }
def outletWholeRow : OpenClaim := { program := "ytilebfpaibajcaagreatdoor", sum := "a2a0bfc83708a832ae3ab2fcfa307af52ed366446f4ae9ea8fc400f0a2f7fb47", func := "catchpit/catchpitlaw14.OutletWhole", spec := "outletWhole", inPlace := ["internal/bytealg.IndexByteString", "internal/bytealg.IndexString"], unfollowed := true, recurses := true, named := ["catchpit/filter.names", "catchpit/octet.wordSpans", "internal/bytealg.MaxLen", "unicode/utf8.first", "unicode/utf8.acceptRanges"], apart := false, laid := [("unicode/utf8.acceptRanges", laid_unicode_utf8_acceptRanges), ("catchpit/octet.wordSpans", laid_catchpit_octet_wordSpans), ("catchpit/filter.names", laid_catchpit_filter_names), ("unicode/utf8.first", laid_unicode_utf8_first)] }
def OutletWholeSaid : Prop := outletWholeRow.holds Tryz.pinned (OpenSpec.ofChange outletWholeSpec)

/-- ITS FALSE NEIGHBOUR: 'it returns false'. Refute it at one input. -/
def outletWholeWrong : ChangeSpec := { name := "outletWhole", fn := fun _ => fun
  | [d1, d2] => { results := [.lit (.bool false)], args := [d1, d2] }
  | _ => none }
def OutletWholeWrongFalsely : Prop := outletWholeRow.holds Tryz.pinned (OpenSpec.ofChange outletWholeWrong)

/-- 'catchpitlaw14.OutletWholes': WHATEVER THE INPUT: true; the input reads as it did. -/
def outletWholesSpec : ChangeSpec := { name := "outletWholes", fn := fun _ => fun
  | [d1, d2] => { results := [.lit (.bool true)], args := [d1, d2] }
  | _ => none }
def outletWholesRow : OpenClaim := { program := "ytilebfpaibajcaagreatdoor", sum := "a2a0bfc83708a832ae3ab2fcfa307af52ed366446f4ae9ea8fc400f0a2f7fb47", func := "catchpit/catchpitlaw14.OutletWholes", spec := "outletWholes", inPlace := ["internal/bytealg.IndexByteString", "internal/bytealg.IndexString"], unfollowed := true, recurses := true, named := ["catchpit/filter.names", "catchpit/octet.wordSpans", "internal/bytealg.MaxLen", "unicode/utf8.first", "unicode/utf8.acceptRanges"], apart := false, laid := [("unicode/utf8.acceptRanges", laid_unicode_utf8_acceptRanges), ("catchpit/octet.wordSpans", laid_catchpit_octet_wordSpans), ("catchpit/filter.names", laid_catchpit_filter_names), ("unicode/utf8.first", laid_unicode_utf8_first)] }
def OutletWholesSaid : Prop := outletWholesRow.holds Tryz.pinned (OpenSpec.ofChange outletWholesSpec)

/-- ITS FALSE NEIGHBOUR: 'it returns false'. Refute it at one input. -/
def outletWholesWrong : ChangeSpec := { name := "outletWholes", fn := fun _ => fun
  | [d1, d2] => { results := [.lit (.bool false)], args := [d1, d2] }
  | _ => none }
def OutletWholesWrongFalsely : Prop := outletWholesRow.holds Tryz.pinned (OpenSpec.ofChange outletWholesWrong)

/- THE SECOND FORM. 'bulk': how many values and letters a reading holds, each counted each time it is reached (what is shared counts as often as it is met; a slice's spare places count too). A statement '..UptoSaid' is the law's where the arguments, and the package variables that the reading takes, are together of bulk at most 1048576: NARROWER than '..Said'. Prove '..Said' where nothing that the law and all that it calls make is longer than what came in: it says more and counts as full. Else prove '..UptoSaid'. A law counts once. -/
mutual
def uptoBulk {H : Type} : DataW H → Nat
  | .lit (.string bytes) => bytes.length + 1
  | .lit _ => 1
  | .nil => 1
  | .ptr d => uptoBulk d + 1
  | .slice elems spare => uptoBulkAll elems + uptoBulkAll spare + 1
  | .agg parts => uptoBulkAll parts + 1
  | .iface _ d => uptoBulk d + 1
  | .map entries => uptoBulkEntries entries + 1
  | .held _ => 1
def uptoBulkAll {H : Type} : List (DataW H) → Nat
  | [] => 0
  | d :: r => uptoBulk d + uptoBulkAll r
def uptoBulkEntries {H : Type} : List (Lit × DataW H) → Nat
  | [] => 0
  | x :: r => uptoBulkEntry x + uptoBulkEntries r
def uptoBulkEntry {H : Type} : Lit × DataW H → Nat
  | (.string bytes, d) => bytes.length + uptoBulk d + 1
  | (_, d) => uptoBulk d + 1
 end
def uptoSmall : (H : Type) → List (DataW H) → Bool := fun _ ds => decide (uptoBulkAll ds ≤ 1048576)
def OpenSpec.upto (s : _root_.Go.ChangeSpec) : _root_.Go.OpenSpec := { _root_.Go.OpenSpec.ofChange s with cond := some uptoSmall }

/-- 'catchpitlaw14.OutletActs', WHERE WHAT IT READS IS OF BULK AT MOST 1048576: true; the input reads as it did. -/
def outletActsUptoRow : OpenClaim := { program := "ytilebfpaibajcaagreatdoor", sum := "a2a0bfc83708a832ae3ab2fcfa307af52ed366446f4ae9ea8fc400f0a2f7fb47", func := "catchpit/catchpitlaw14.OutletActs", spec := "outletActs", unfollowed := true, recurses := true, named := ["catchpit/filter.names"], apart := false, laid := [("catchpit/filter.names", laid_catchpit_filter_names)], narrowed := true }
def OutletActsUptoSaid : Prop := outletActsUptoRow.holds Tryz.pinned (OpenSpec.upto outletActsSpec)

/-- 'catchpitlaw14.OutletWhole', WHERE WHAT IT READS IS OF BULK AT MOST 1048576: true; the input reads as it did. -/
def outletWholeUptoRow : OpenClaim := { program := "ytilebfpaibajcaagreatdoor", sum := "a2a0bfc83708a832ae3ab2fcfa307af52ed366446f4ae9ea8fc400f0a2f7fb47", func := "catchpit/catchpitlaw14.OutletWhole", spec := "outletWhole", inPlace := ["internal/bytealg.IndexByteString", "internal/bytealg.IndexString"], unfollowed := true, recurses := true, named := ["catchpit/filter.names", "catchpit/octet.wordSpans", "internal/bytealg.MaxLen", "unicode/utf8.first", "unicode/utf8.acceptRanges"], apart := false, laid := [("unicode/utf8.acceptRanges", laid_unicode_utf8_acceptRanges), ("catchpit/octet.wordSpans", laid_catchpit_octet_wordSpans), ("catchpit/filter.names", laid_catchpit_filter_names), ("unicode/utf8.first", laid_unicode_utf8_first)], narrowed := true }
def OutletWholeUptoSaid : Prop := outletWholeUptoRow.holds Tryz.pinned (OpenSpec.upto outletWholeSpec)

/-- 'catchpitlaw14.OutletWholes', WHERE WHAT IT READS IS OF BULK AT MOST 1048576: true; the input reads as it did. -/
def outletWholesUptoRow : OpenClaim := { program := "ytilebfpaibajcaagreatdoor", sum := "a2a0bfc83708a832ae3ab2fcfa307af52ed366446f4ae9ea8fc400f0a2f7fb47", func := "catchpit/catchpitlaw14.OutletWholes", spec := "outletWholes", inPlace := ["internal/bytealg.IndexByteString", "internal/bytealg.IndexString"], unfollowed := true, recurses := true, named := ["catchpit/filter.names", "catchpit/octet.wordSpans", "internal/bytealg.MaxLen", "unicode/utf8.first", "unicode/utf8.acceptRanges"], apart := false, laid := [("unicode/utf8.acceptRanges", laid_unicode_utf8_acceptRanges), ("catchpit/octet.wordSpans", laid_catchpit_octet_wordSpans), ("catchpit/filter.names", laid_catchpit_filter_names), ("unicode/utf8.first", laid_unicode_utf8_first)], narrowed := true }
def OutletWholesUptoSaid : Prop := outletWholesUptoRow.holds Tryz.pinned (OpenSpec.upto outletWholesSpec)

end Rows
end Go.Proofs.YtilebfpaibajcaaGreatDoor
