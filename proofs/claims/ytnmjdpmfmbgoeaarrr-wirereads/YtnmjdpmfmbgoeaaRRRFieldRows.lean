/- Lists of texts and of fields in memory: what they read as; appended; one element of them. -/
import Derived.Test.YtnmjdpmfmbgoeaaRRRFieldGo
import Derived.Test.YtnmjdpmfmbgoeaaRRRByteRows
import Derived.Test.YtnmjdpmfmbgoeaaRRRRowMem
namespace Go.Proofs.YtnmjdpmfmbgoeaaRRR
open Go.ChangeShapes Go.WideShapes Go.ChangeAt Go.RowKit
open Oc Fl
set_option linter.unusedVariables false
set_option maxRecDepth 100000

/-- Texts, and fields, as cells. -/
def tv (l : List ByteArray) : List Value := l.map .string
def fv (l : List Fld) : List Value := l.flatMap fun f => [.string f.name, .string f.value]
theorem tv_len (l : List ByteArray) : (tv l).length = l.length * 1 := by simp [tv]
theorem fv_len (l : List Fld) : (fv l).length = l.length * 2 := by
  induction l with
  | nil => rfl
  | cons f l ih => unfold fv at *; rw [List.flatMap_cons, List.length_append, ih]; simp; omega
theorem tv_app (a b : List ByteArray) : tv a ++ tv b = tv (a ++ b) := by simp [tv]
theorem fv_app (a b : List Fld) : fv a ++ fv b = fv (a ++ b) := by simp [fv]
theorem tv_one (l : List ByteArray) (u : Value) (h : u ∈ tv l) : u.oneCell' = true := by
  simp only [tv, List.mem_map] at h
  obtain ⟨b, _, rfl⟩ := h
  rfl
theorem fv_one (l : List Fld) (u : Value) (h : u ∈ fv l) : u.oneCell' = true := by
  simp only [fv, List.mem_flatMap] at h
  obtain ⟨b, _, hb⟩ := h
  simp at hb
  rcases hb with rfl | rfl <;> rfl
theorem tv_get {l : List ByteArray} {i : Nat} {s : ByteArray} (h : l[i]? = some s) : (tv l)[i]? = some (.string s) := by simp [tv, h]
theorem fv_get {l : List Fld} {i : Nat} {f : Fld} (h : l[i]? = some f) : (fv l)[i * 2]? = some (.string f.name) ∧ (fv l)[i * 2 + 1]? = some (.string f.value) := by
  induction l generalizing i with
  | nil => simp at h
  | cons g l ih =>
    have e : fv (g :: l) = .string g.name :: .string g.value :: fv l := rfl
    rw [e]
    cases i with
    | zero => simp at h; subst h; exact ⟨rfl, rfl⟩
    | succ i =>
      have := ih (i := i) (by simpa using h)
      rw [show (i + 1) * 2 = i * 2 + 2 by omega]
      exact ⟨this.1, this.2⟩
theorem tv_inj {a b : List ByteArray} (h : tv a = tv b) : a = b := by
  induction a generalizing b with
  | nil => cases b with
    | nil => rfl
    | cons => simp [tv] at h
  | cons x a ih => cases b with
    | nil => simp [tv] at h
    | cons y b =>
      simp only [tv, List.map_cons, List.cons.injEq, Value.string.injEq] at h
      rw [h.1, ih h.2]

def TX (W : World) (v : Value) (l : List ByteArray) : Prop := RS W 1 v l.length (tv l)
def FS (W : World) (v : Value) (l : List Fld) : Prop := RS W 2 v l.length (fv l)

theorem TX.below {W W' : World} {v : Value} {l : List ByteArray} (h : TX W v l) (hb : Below W.heap.size W W') : TX W' v l := RS.below h hb
theorem FS.below {W W' : World} {v : Value} {l : List Fld} (h : FS W v l) (hb : Below W.heap.size W W') : FS W' v l := RS.below h hb
/-- An element of a list of texts. -/
theorem TX.at {W : World} {p : Option Addr} {n c : Nat} {l : List ByteArray} (h : TX W (.slice p n c) l) {i : Nat} {s : ByteArray} (hi : l[i]? = some s) : n = l.length ∧ ∃ ad, p = some ad ∧ W.cell? (ad.add i) = some (.string s) := by
  obtain ⟨h0, p', c', e, h1, h2, h3, h4⟩ := h
  cases e
  refine ⟨rfl, ?_⟩
  cases p with
  | none =>
    have := h3 rfl
    have hl := (List.getElem?_eq_some_iff.1 hi).1
    omega
  | some ad => exact ⟨ad, rfl, h4 ad rfl i _ (tv_get hi)⟩
theorem FS.at {W : World} {p : Option Addr} {n c : Nat} {l : List Fld} (h : FS W (.slice p n c) l) {i : Nat} {f : Fld} (hi : l[i]? = some f) :
    n = l.length ∧ ∃ ad, p = some ad ∧ W.cell? (ad.add (i * 2)) = some (.string f.name) ∧ W.cell? ⟨(ad.add (i * 2)).block, (ad.add (i * 2)).off + 1, none⟩ = some (.string f.value) := by
  obtain ⟨h0, p', c', e, h1, h2, h3, h4⟩ := h
  cases e
  refine ⟨rfl, ?_⟩
  cases p with
  | none =>
    have := h3 rfl
    have hl := (List.getElem?_eq_some_iff.1 hi).1
    omega
  | some ad =>
    refine ⟨ad, rfl, h4 ad rfl _ _ (fv_get hi).1, ?_⟩
    have := h4 ad rfl _ _ (fv_get hi).2
    rw [← Addr.add_add] at this
    have e1 : (ad.add (i * 2)).add 1 = ⟨(ad.add (i * 2)).block, (ad.add (i * 2)).off + 1, none⟩ := Addr.add_succ' _ 0
    rw [e1] at this
    exact this
theorem str_info : (Try.prog.info? 9).map (fun i => (i.zero, i.size, i.bytes)) = some (some (.string ⟨#[]⟩), 1, 16) := by kernel_rfl
/-- A list of one, just built. -/
theorem tx_one (W : World) (s : ByteArray) (t : TypeId) : TX (W.alloc (.cells #[.string s] t)) (.slice (some ⟨W.heap.size, 0, none⟩) 1 1) [s] := by
  refine ⟨rfl, some ⟨W.heap.size, 0, none⟩, 1, rfl, Nat.le_refl _, by decide, (fun h => by cases h), fun ad hp i u hu => ?_⟩
  cases hp
  match i, hu with
  | 0, hu =>
    simp [tv] at hu
    subst hu
    rw [Addr.add_zero']
    rw [cell_of_row _ _ 0 #[.string s] _ _ (heap_alloc_new W _)]
    rfl
  | i + 1, hu => simp [tv] at hu
theorem fs_one (W : World) (f : Fld) (t : TypeId) : FS (W.alloc (.cells #[.string f.name, .string f.value] t)) (.slice (some ⟨W.heap.size, 0, none⟩) 1 1) [f] := by
  refine ⟨rfl, some ⟨W.heap.size, 0, none⟩, 1, rfl, Nat.le_refl _, by decide, (fun h => by cases h), fun ad hp i u hu => ?_⟩
  cases hp
  match i, hu with
  | 0, hu =>
    simp [fv] at hu
    subst hu
    rw [Addr.add_zero']
    exact (two_cells (box_cells W _ _ t)).1
  | 1, hu =>
    simp [fv] at hu
    subst hu
    rw [Addr.add_succ']
    exact (two_cells (box_cells W _ _ t)).2.1
  | i + 2, hu => simp [fv] at hu

end Go.Proofs.YtnmjdpmfmbgoeaaRRR
