/- What the document's Parse, Put, and field.Put, answer. -/
import Derived.Test.YtjkccacpffikbaaDoorFieldGo
namespace Go.Proofs.YtjkccacpffikbaaDoor
open Go.ChangeShapes Go.WideShapes Go.ChangeAt Go.RowKit
open Oc Fl
set_option linter.unusedVariables false
set_option maxRecDepth 100000

theorem col_stop {s : ByteArray} {k : Nat} (hk : k ≤ col s) (h : k < s.size) (hb : ((s[k].toNat : Int) == 58) = true) : k = col s := by
  have : s[k] = 58 := by
    have := beq_iff_eq.1 hb
    have h2 : s[k].toNat = 58 := by omega
    exact UInt8.toNat_inj.1 h2
  have := col_le_of h this
  omega
theorem col_go {s : ByteArray} {k : Nat} (hk : k ≤ col s) (h : k < s.size) (hb : ((s[k].toNat : Int) == 58) = false) : k + 1 ≤ col s := by
  by_cases e : k = col s
  · subst e
    have := col_at h
    rw [this] at hb
    exact absurd hb (by decide)
  · omega

theorem put_val (f : Fld) (h : f.value.size = 0) : f.name ++ ⟨#[58]⟩ = line f := by unfold line; rw [if_pos h]
theorem put_val' (f : Fld) (h : ¬ f.value.size = 0) : f.name ++ ⟨#[58]⟩ ++ ⟨#[32]⟩ ++ f.value = line f := by unfold line; rw [if_neg h]
theorem put_val'' (f : Fld) (h : ¬ f.value.size = 0) : f.name ++ ⟨#[58, 32]⟩ ++ f.value = line f := by
  rw [← put_val' f h]
  refine b_ext ?_
  simp

end Go.Proofs.YtjkccacpffikbaaDoor
