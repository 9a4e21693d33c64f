/- Bytes that a call gathers in a row of its own: what append and string(..) do to them. -/
import Derived.Test.YtnmjdpmfmbgoeaaRRRRows
import Derived.WalkKit
import Derived.ProofKit
import Derived.OpenShut
import Derived.Handy
import Derived.Lib.Hide
import Derived.Deep.DeepMust
import Derived.Maps.AppendAt
namespace Go.Proofs.YtnmjdpmfmbgoeaaRRR
open Go.ChangeShapes Go.WideShapes Go.ChangeAt Go.RowKit
set_option linter.unusedVariables false
set_option maxRecDepth 100000

/-- Bytes as cells. -/
def bv (l : List UInt8) : List Value := l.map fun b => .int .u8 (b.toNat : Int)
theorem bv_snoc (l : List UInt8) (b : UInt8) : bv l ++ [.int .u8 (b.toNat : Int)] = bv (l ++ [b]) := by simp [bv]
theorem bv_len (l : List UInt8) : (bv l).length = l.length := by simp [bv]
theorem conv_own (l : List UInt8) (base : Nat) (v : Value) (wx : World) (h : wx.ownsRow base 5 1 v l.length (bv l)) :
    (convert 34 9 v).run Try.prog wx = .ok (.string ⟨l.toArray⟩) wx := by
  rcases h.2 with ⟨rfl, hn⟩ | ⟨g, cap, cur, rfl, _, hh, _⟩
  · obtain rfl : l = [] := List.eq_nil_of_length_eq_zero hn
    exact run_convert_bytes_nil (P := Try.prog) wx 34 5 Try.underlying34 Try.underlying5 0 0 9 Try.underlying9
  · refine run_convert_bytes_back (P := Try.prog) wx 34 9 5 ⟨g, 0, none⟩ cap l Try.underlying34 Try.underlying5 Try.underlying9 (fun j hj => ?_)
    exact h.cells (g := g) rfl j _ (by simp [bv, hj])
theorem byte_info : (Try.prog.info? 5).map (fun i => (i.zero, i.size, i.bytes)) = some (some (.int .u8 0), 1, 1) := by kernel_rfl
theorem own_step {w wr w1 : World} {v v' : Value} {l : List UInt8} {b : UInt8} {x : Value} (hx : x = .int .u8 (b.toNat : Int)) (hB : Below w.heap.size w wr)
    (hown : wr.ownsRow w.heap.size 5 1 v l.length (bv l)) (hown' : w1.ownsRow w.heap.size 5 1 v' (l.length + 1) (bv l ++ [x])) (hg : (wr.alloc (.cells #[x] 5)).grownBy w1 v.ownBlock) :
    w1.ownsRow w.heap.size 5 1 v' (l ++ [b]).length (bv (l ++ [b])) ∧ Below w.heap.size w w1 := by
  subst hx
  refine ⟨by rw [← bv_snoc, List.length_append]; exact hown', ?_⟩
  have h1 := hB.size
  exact (hB.alloc h1 _).grown hg (by simp; omega) (fun k hk => (hown.lt k hk).1)

end Go.Proofs.YtnmjdpmfmbgoeaaRRR
