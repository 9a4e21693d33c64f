/- What the document's Step answers, at each place. -/
import Derived.Test.YtjkccacpffikbaaDoorBodyMath
import Derived.Test.YtjkccacpffikbaaDoorHexaBody
import Derived.Test.YtjkccacpffikbaaDoorByteMem
import Derived.Test.YtjkccacpffikbaaDoorFieldRef
import Derived.Test.YtjkccacpffikbaaDoorFieldSame
namespace Go.Proofs.YtjkccacpffikbaaDoor
open Go.ChangeShapes Go.WideShapes Go.ChangeAt Go.RowKit
open Oc Fl Bk Bd
set_option linter.unusedVariables false
set_option maxRecDepth 100000

/-- A state of the document's reader, as a value; limits. -/
abbrev stc (p n c li si : Nat) (tx : List UInt8) (dv gv : Value) : Array Value := #[.int .i64 (p : Int), .int .u64 (n : Int), .int .i64 (c : Int), .int .i64 (li : Int), .int .i64 (si : Int), .string (arr tx), dv, gv]
def stv (s : St) (dv gv : Value) : Value := .agg (stc s.place s.n s.count s.lines s.size s.text dv gv)
def limv (l : Lim) : Value := .agg #[.int .i64 (l.ext : Int), .int .i64 (l.fields : Int), .int .i64 (l.bytes : Int)]

/-- Some state or other. -/
def AnySt (v : Value) : Prop := ∃ (a0 a1 a2 a3 a4 : Int) (a5 : ByteArray) (p6 : Option Addr) (n6 c6 : Nat) (p7 : Option Addr) (n7 c7 : Nat), v = .agg #[.int .i64 a0, .int .u64 a1, .int .i64 a2, .int .i64 a3, .int .i64 a4, .string a5, .slice p6 n6 c6, .slice p7 n7 c7]
/-- What a step leaves. -/
def StepQ (l : Lim) (s : St) (b : UInt8) (gv0 : Value) (w : World) (e : Ending) (w' : World) : Prop :=
  Below w.heap.size w w' ∧ (er l s b ≠ 0 → ∃ v, AnySt v ∧ e = .returned (.tuple #[v, .int .i64 ((er l s b : Nat) : Int)])) ∧
    (er l s b = 0 → ∃ dv gv, e = .returned (.tuple #[stv (nxt s b) dv gv, .int .i64 0]) ∧ RD w' dv (nxt s b).data ∧ FS w' gv (nxt s b).fields ∧ (gv = gv0 ∨ ∀ g, gv.ownBlock = some g → w.heap.size ≤ g))
theorem StepQ.bad {l : Lim} {s : St} {b : UInt8} {gv0 : Value} {w w' : World} {a0 a1 a2 a3 a4 : Int} {a5 : ByteArray} {p6 : Option Addr} {n6 c6 : Nat} {p7 : Option Addr} {n7 c7 : Nat} {k : Nat} (he : er l s b = k) (hk : k ≠ 0) (hb : Below w.heap.size w w') :
    StepQ l s b gv0 w (.returned (.tuple #[.agg #[.int .i64 a0, .int .u64 a1, .int .i64 a2, .int .i64 a3, .int .i64 a4, .string a5, .slice p6 n6 c6, .slice p7 n7 c7], .int .i64 (k : Int)])) w' :=
  ⟨hb, fun _ => ⟨_, ⟨a0, a1, a2, a3, a4, a5, p6, n6, c6, p7, n7, c7, rfl⟩, by rw [he]⟩, fun h => absurd (he.symm.trans h) hk⟩
theorem StepQ.ok {l : Lim} {s s' : St} {b : UInt8} {w w' : World} {dv gv gv0 : Value} (he : er l s b = 0) (hs : nxt s b = s') (hb : Below w.heap.size w w') (h1 : RD w' dv s'.data) (h2 : FS w' gv s'.fields) (hg : gv = gv0 ∨ ∀ g, gv.ownBlock = some g → w.heap.size ≤ g := by exact .inl rfl) : StepQ l s b gv0 w (.returned (.tuple #[stv s' dv gv, .int .i64 0])) w' :=
  ⟨hb, fun h => absurd he h, fun _ => ⟨dv, gv, by rw [hs], by rw [hs]; exact h1, by rw [hs]; exact h2, hg⟩⟩

theorem box3 (w : World) (x y z : Obj) : (((w.alloc x).alloc y).alloc z).heap[w.heap.size + 1 + 1]? = some z := by
  have := World.alloc_heap_new ((w.alloc x).alloc y) z
  simpa using this
theorem below3 (w : World) (x y z : Obj) : Below w.heap.size w (((w.alloc x).alloc y).alloc z) := ahead (ahead (below_box _ _) (below_box _ _)) (below_box _ _)
theorem below4 (w : World) (x y z u : Obj) : Below w.heap.size w ((((w.alloc x).alloc y).alloc z).alloc u) := ahead (below3 w x y z) (below_box _ _)
theorem box4 (w : World) (x y z u : Obj) : ((((w.alloc x).alloc y).alloc z).alloc u).heap[w.heap.size + 1 + 1]? = some z := by
  rw [Below.heap_alloc _ _ _ (by simp)]; exact box3 w x y z
theorem ub_ne {b c : UInt8} (h : b ≠ c) : (((b.toNat : Int)) == (c.toNat : Int)) = false := beq_eq_false_iff_ne.2 (fun e => h (UInt8.toNat.inj (by omega)))
theorem ub_nne {b c : UInt8} (h : b ≠ c) : (((b.toNat : Int)) != (c.toNat : Int)) = true := by unfold bne; rw [ub_ne h]; rfl
theorem conv_one8 (b : UInt8) (g : Nat) (wx : World) (h : wx.cell? ⟨g, 0, none⟩ = some (.int .u8 (b.toNat : Int))) :
    (convert 25 9 (.slice (some ⟨g, 0, none⟩) 1 1)).run Tryd.prog wx = .ok (.string ⟨#[b]⟩) wx :=
  run_convert_bytes_back (P := Tryd.prog) wx 25 9 5 ⟨g, 0, none⟩ 1 [b] Tryd.underlying25 Tryd.underlying5 Tryd.underlying9 (fun j hj => by
    obtain rfl : j = 0 := by simpa using hj
    exact h)
theorem token_one (b : UInt8) : token [b] = tkb b := by simp [token, tkb, every]

end Go.Proofs.YtjkccacpffikbaaDoor
