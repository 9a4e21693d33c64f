/- What body.Scan answers of a body that was put. -/
import Derived.Test.YtjolpnjmelifbaaGreatDoorByteSlices
import Derived.Test.YtjolpnjmelifbaaGreatDoorBodyPutMath
import Derived.Test.YtjolpnjmelifbaaGreatDoorBodyScan
namespace Go.Proofs.YtjolpnjmelifbaaGreatDoor
open Go.ChangeShapes Go.WideShapes Go.ChangeAt Go.RowKit
open Go.Shelf
open Oc Fl Bk Bd
set_option linter.unusedVariables false
set_option maxRecDepth 100000

/-- A body's text, and more behind it, scanned. -/
theorem scan_bod {tv : Value} {l : Lim} {e : List UInt8} {cs : List (List UInt8)} {fs : List Fld} {M : List UInt8} (w : World) (hT : RD w tv (bod e cs fs ++ M)) (hl : (bod e cs fs ++ M).length ≤ 1099511627776) (hlm : l.ext ≤ 65536 ∧ l.fields ≤ 65536 ∧ l.bytes ≤ 65536)
    (he : Ext l e) (hc : cs.flatten.length ≤ 4611686018427387903) (hr : rights fs = true) (hf : fs.length ≤ l.fields) (hb : (body fs).length ≤ l.bytes) (hv : ∀ g, tv.ownBlock = some g → g < w.heap.size) (hsp : Spans w) (hbd : Bound w) :
    Calls Tryz.prog 11 #[tv, limv l] w fun x w' => ∃ p1 c1 p2 c2, x = .returned (.tuple #[.agg #[.slice p1 cs.flatten.length c1, .slice p2 fs.length c2, .int .i64 ((bod e cs fs).length : Int)], .int .i64 ((bod e cs fs).length : Int), .int .i64 0]) ∧ RD w' (.slice p1 cs.flatten.length c1) cs.flatten ∧ FS w' (.slice p2 fs.length c2) fs ∧ Below w.heap.size w w' := by
  refine (scan8_any w hT hl hlm hv hsp hbd).mono ?_
  rintro x w' ⟨s1, k1, e1, dv, gv, hgo, rfl, hbl, hd, hg⟩
  obtain ⟨s', h1, h2, h3⟩ := go_bod he (fun c h => Nat.le_trans (flat_mem h) hc) hr hf hb M
  rw [h1] at hgo
  simp only [Prod.mk.injEq] at hgo
  obtain ⟨rfl, rfl, rfl⟩ := hgo
  rw [if_pos rfl] at hd hg
  rw [h2] at hd
  rw [h3] at hg
  obtain ⟨p1, c1, rfl, q1⟩ := id hd
  obtain ⟨p2, c2, rfl, q2⟩ := RS.slice hg
  exact ⟨p1, c1, p2, c2, rfl, hd, hg, hbl⟩

end Go.Proofs.YtjolpnjmelifbaaGreatDoor
