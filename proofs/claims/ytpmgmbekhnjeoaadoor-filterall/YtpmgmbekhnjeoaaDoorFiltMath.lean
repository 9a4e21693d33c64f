/- Plain words for layer 13: the names that may not be trailers; fields parted by them. -/
import Derived.Test.YtpmgmbekhnjeoaaDoorFieldMath
namespace Go.Proofs.YtpmgmbekhnjeoaaDoor
namespace Ft
open Oc Fl
set_option linter.unusedVariables false
set_option maxRecDepth 100000

/-- The names that may not be trailers. -/
def nms : List ByteArray := [
  ⟨#[65, 117, 116, 104, 111, 114, 105, 122, 97, 116, 105, 111, 110]⟩,
  ⟨#[67, 97, 99, 104, 101, 45, 67, 111, 110, 116, 114, 111, 108]⟩,
  ⟨#[67, 111, 110, 110, 101, 99, 116, 105, 111, 110]⟩,
  ⟨#[67, 111, 110, 116, 101, 110, 116, 45, 69, 110, 99, 111, 100, 105, 110, 103]⟩,
  ⟨#[67, 111, 110, 116, 101, 110, 116, 45, 76, 101, 110, 103, 116, 104]⟩,
  ⟨#[67, 111, 110, 116, 101, 110, 116, 45, 82, 97, 110, 103, 101]⟩,
  ⟨#[67, 111, 110, 116, 101, 110, 116, 45, 84, 121, 112, 101]⟩,
  ⟨#[67, 111, 111, 107, 105, 101]⟩,
  ⟨#[69, 120, 112, 101, 99, 116]⟩,
  ⟨#[72, 111, 115, 116]⟩,
  ⟨#[73, 102, 45, 77, 97, 116, 99, 104]⟩,
  ⟨#[73, 102, 45, 77, 111, 100, 105, 102, 105, 101, 100, 45, 83, 105, 110, 99, 101]⟩,
  ⟨#[73, 102, 45, 78, 111, 110, 101, 45, 77, 97, 116, 99, 104]⟩,
  ⟨#[73, 102, 45, 82, 97, 110, 103, 101]⟩,
  ⟨#[73, 102, 45, 85, 110, 109, 111, 100, 105, 102, 105, 101, 100, 45, 83, 105, 110, 99, 101]⟩,
  ⟨#[75, 101, 101, 112, 45, 65, 108, 105, 118, 101]⟩,
  ⟨#[77, 97, 120, 45, 70, 111, 114, 119, 97, 114, 100, 115]⟩,
  ⟨#[80, 114, 97, 103, 109, 97]⟩,
  ⟨#[80, 114, 111, 120, 121, 45, 65, 117, 116, 104, 101, 110, 116, 105, 99, 97, 116, 101]⟩,
  ⟨#[80, 114, 111, 120, 121, 45, 65, 117, 116, 104, 111, 114, 105, 122, 97, 116, 105, 111, 110]⟩,
  ⟨#[80, 114, 111, 120, 121, 45, 67, 111, 110, 110, 101, 99, 116, 105, 111, 110]⟩,
  ⟨#[82, 97, 110, 103, 101]⟩,
  ⟨#[83, 101, 116, 45, 67, 111, 111, 107, 105, 101]⟩,
  ⟨#[84, 69]⟩,
  ⟨#[84, 114, 97, 105, 108, 101, 114]⟩,
  ⟨#[84, 114, 97, 110, 115, 102, 101, 114, 45, 69, 110, 99, 111, 100, 105, 110, 103]⟩,
  ⟨#[85, 112, 103, 114, 97, 100, 101]⟩,
  ⟨#[87, 87, 87, 45, 65, 117, 116, 104, 101, 110, 116, 105, 99, 97, 116, 101]⟩]
/-- May it not be a trailer's name? -/
def forb (s : ByteArray) : Bool := nms.any fun n => alike s.data.toList n.data.toList
def bad (f : Fld) : Bool := forb f.name
/-- Those fields that are forbidden, or aren't. -/
def sel (b : Bool) (l : List Fld) : List Fld := l.filter fun f => bad f == b

theorem nms_len : nms.length = 28 := rfl
theorem nms_size : ∀ n ∈ nms, n.size ≤ 100 := by decide
theorem nms_forb : ∀ n ∈ nms, forb n = true := fun n hn => by
  unfold forb
  rw [List.any_eq_true]
  exact ⟨n, hn, by unfold alike; simp⟩
theorem nms_x : ∀ n ∈ nms, forb (n ++ ⟨#[120]⟩) = false := by decide +kernel
theorem forb_length : forb ⟨#[99, 111, 110, 116, 101, 110, 116, 45, 108, 101, 110, 103, 116, 104]⟩ = true := by decide +kernel
theorem forb_sum : forb ⟨#[88, 45, 83, 117, 109]⟩ = false := by decide +kernel

theorem any_snoc {α : Type} {p : α → Bool} {l : List α} {k : Nat} {x : α} (h : l[k]? = some x) : (l.take (k + 1)).any p = ((l.take k).any p || p x) := by
  rw [List.take_add_one, h, List.any_append]; simp
theorem any_here {α : Type} {p : α → Bool} {l : List α} {k : Nat} {x : α} (h : l[k]? = some x) (hx : p x = true) : l.any p = true :=
  List.any_eq_true.2 ⟨x, List.mem_of_getElem? h, hx⟩

theorem sel_take {l : List Fld} {k : Nat} {f : Fld} (b : Bool) (h : l[k]? = some f) : sel b (l.take (k + 1)) = sel b (l.take k) ++ (if bad f = b then [f] else []) := by
  rw [List.take_add_one, h]
  simp only [Option.toList_some, sel, List.filter_append, List.filter_cons, List.filter_nil]
  by_cases hb : bad f = b <;> simp [hb]
theorem sel_len (b : Bool) (l : List Fld) : (sel b l).length ≤ l.length := List.length_filter_le _ _
theorem sel_take_len (b : Bool) (l : List Fld) (k : Nat) : (sel b (l.take k)).length ≤ l.length := by
  have := sel_len b (l.take k)
  rw [List.length_take] at this
  omega
theorem sel_both (l : List Fld) : (sel false l).length + (sel true l).length = l.length := by
  induction l with
  | nil => rfl
  | cons f l ih =>
    simp only [sel, List.filter_cons, List.length_cons] at ih ⊢
    cases bad f
    · rw [if_pos (show (false == false) = true by decide), if_neg (show ¬ (false == true) = true by decide), List.length_cons]; omega
    · rw [if_neg (show ¬ (true == false) = true by decide), if_pos (show (true == true) = true by decide), List.length_cons]; omega
theorem sel_again (l : List Fld) : sel false (sel false l) = sel false l := by
  unfold sel; rw [List.filter_filter]; congr 1; funext f; cases bad f <;> rfl
theorem sel_none (l : List Fld) : sel true (sel false l) = [] := by
  unfold sel; rw [List.filter_filter, List.filter_eq_nil_iff]
  intro f _; cases bad f <;> simp
theorem sel_append (b : Bool) (l m : List Fld) : sel b (l ++ m) = sel b l ++ sel b m := by unfold sel; rw [List.filter_append]
theorem sel_mem {b : Bool} {l : List Fld} {f : Fld} (h : f ∈ sel b l) : f ∈ l := (List.mem_filter.1 h).1

end Ft
end Go.Proofs.YtpmgmbekhnjeoaaDoor
