/- The law DechunkStays. -/
import Derived.Test.YtjkccacpffikbaaDoorDecWake
namespace Go.Proofs.YtjkccacpffikbaaDoor
open Go.ChangeShapes Go.WideShapes Go.ChangeAt Go.RowKit
open Oc Fl Bk Bd Dk
set_option linter.unusedVariables false
set_option maxRecDepth 100000

theorem cont_four {l : Lim} {T : List UInt8} {n : Nat} (h4 : (cont l (sz [] 0 0, 0, 4) T).2.2 = 4) (h : (cont l (sz [] 0 0, 0, 4) T).2.1 = 0 + n) : n = T.length := by
  rw [cont_go] at h4 h
  have := (go_at l (sz [] 0 0) T 0).2.2 h4
  omega
theorem okLs_nat {a b c : Int} (h : okLs a b c = true) : ∃ l : Lim, a = (l.ext : Int) ∧ b = (l.fields : Int) ∧ c = (l.bytes : Int) ∧ l.ext ≤ 65536 ∧ l.fields ≤ 65536 ∧ l.bytes ≤ 65536 := by
  unfold okLs okL at h
  simp at h
  refine ⟨⟨a.toNat, b.toNat, c.toNat⟩, ?_, ?_, ?_, ?_, ?_, ?_⟩ <;> simp <;> omega
theorem told_zero {e : Nat} : told e = 0 ↔ e = 0 ∨ e = 4 := by unfold told; split <;> omega

end Go.Proofs.YtjkccacpffikbaaDoor
