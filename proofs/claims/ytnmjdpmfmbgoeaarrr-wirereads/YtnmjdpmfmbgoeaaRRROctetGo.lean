/- What octet.Token, octet.Text and what they call answer. -/
import Derived.Test.YtnmjdpmfmbgoeaaRRRRows
import Derived.Test.YtnmjdpmfmbgoeaaRRROctetMath
import Derived.WalkKit
import Derived.WalkLawsBesides
import Derived.ProofKit
import Derived.OpenShut
import Derived.Handy
import Derived.Outline
import Derived.Lib.Hide
import Derived.Deep.QuietTactic
import Derived.BigQuiet
import Derived.Deep.RegionWith
import Derived.Deep.DeepMust
import Derived.Maps.AppendAt
import Derived.Lib.Bytealg
import Derived.Lib.Walk
import Derived.Shelf.RegionOpenPlain
namespace Go.Proofs.YtnmjdpmfmbgoeaaRRR
open Go.ChangeShapes Go.WideShapes Go.ChangeAt Go.RowKit
open Oc
set_option linter.unusedVariables false
set_option maxRecDepth 100000

theorem ret_bool {a b : Bool} (h : a = b) : Ending.returned (.bool a) = .returned (.bool b) := by rw [h]

/-- The text of the other token bytes. -/
abbrev marksText : ByteArray := ⟨#[33, 35, 36, 37, 38, 39, 42, 43, 45, 46, 94, 95, 96, 124, 126]⟩
def markAt (c : Int) : Int := Lib.indexByte marksText.data.toList c.toNat.toUInt8
theorem markAt_ge (c : Int) (h0 : 0 ≤ c) (h1 : c ≤ 255) : decide (0 ≤ markAt c) = markB c := by
  obtain ⟨n, rfl⟩ := Int.eq_ofNat_of_zero_le h0
  have hn : n < 256 := by omega
  have key : ∀ k : Fin 256, decide (0 ≤ markAt (k.val : Int)) = markB (k.val : Int) := by decide +kernel
  exact key ⟨n, hn⟩

theorem every_stop {p : Int → Bool} {s : ByteArray} {k : Nat} (h : k < s.size) (b : p (s[k].toNat : Int) = false) : every p s.data.toList = false := by
  unfold every; rw [List.all_eq_false]
  exact ⟨s[k], by simp [ByteArray.getElem_eq_getElem_data], by simpa using b⟩
theorem every_all {p : Int → Bool} {s : ByteArray} {k : Nat} (h : ¬ k < s.size) (a : ∀ c ∈ s.data.toList.take k, p (c.toNat : Int) = true) : every p s.data.toList = true := by
  rw [List.take_of_length_le (by simp; exact Nat.le_of_not_lt h)] at a
  unfold every; rw [List.all_eq_true]; exact a
theorem byte_lo (c : UInt8) : (0 : Int) ≤ (c.toNat : Int) := by omega
theorem byte_hi (c : UInt8) : (c.toNat : Int) ≤ 255 := by have := c.toNat_lt; omega
theorem btake (s : ByteArray) (k : Nat) (h : k < s.size) : s.data.toList.take (k + 1) = s.data.toList.take k ++ [s[k]] := by
  rw [List.take_succ_eq_append_getElem (by simpa using h)]; rfl
theorem bmem_succ {s : ByteArray} {k : Nat} (h : k < s.size) {P : UInt8 → Prop} (a : ∀ c ∈ s.data.toList.take k, P c) (b : P s[k]) : ∀ c ∈ s.data.toList.take (k + 1), P c := by
  intro c hc; rw [btake s k h, List.mem_append] at hc
  rcases hc with hc | hc
  · exact a c hc
  · simp at hc; subst hc; exact b

end Go.Proofs.YtnmjdpmfmbgoeaaRRR
