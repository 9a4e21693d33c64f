/- What field.Is, Get, and the document's Is, Get, Texts, Great, answer. -/
import Derived.Test.YtpmgmbekhnjeoaaDoorFieldSame
import Derived.Test.YtpmgmbekhnjeoaaDoorOctetSmall
import Derived.Deep.RegionHeld3
namespace Go.Proofs.YtpmgmbekhnjeoaaDoor
open Go.ChangeShapes Go.WideShapes Go.ChangeAt Go.RowKit
open Oc Fl
set_option linter.unusedVariables false
set_option maxRecDepth 100000

set_option maxHeartbeats 1000000 in
theorem is_any (f : Fld) (n : ByteArray) (w : World) (hf : f.name.size ≤ 1099511627776) (hn : n.size ≤ 1099511627776) :
    Calls Tryd.prog 23 #[fld f, .string n] w fun e w' => e = .returned (.bool (has n f)) ∧ Below w.heap.size w w' := by
  have hA : Hid (∀ W, _) := Lib.hid fun W => alike_any f.name n W hf hn
  have hh : Hid (has n f = alike f.name.data.toList n.data.toList) := Lib.hid rfl
  obtain ⟨x, y⟩ := f
  simp only at hA hh hf
  generalize has n ⟨x, y⟩ = b at *
  rw [← hh.out] at hA
  have hbox : Hid (∀ t, Below w.heap.size w (w.alloc (.cells #[.string x, .string y] t))) := Lib.hid fun t => below_box w _
  go_enter Tryd.func23, Tryd.ntmps23
  go_wp2_with (go_at_call 18; refine (hA.out _).mono ?_; rintro e w' ⟨rfl, hb⟩)
  go_ret
  exact ⟨rfl, ahead (hbox.out _) hb⟩

theorem small_eq {a b : List UInt8} : ((⟨(small a).toArray⟩ : ByteArray).toList == (⟨(small b).toArray⟩ : ByteArray).toList) = alike a b := by
  unfold alike
  rw [Bool.eq_iff_iff]
  simp

/-- The cell of a text that was captured. -/
def TextAt (W : World) (g : Nat) (n : ByteArray) : Prop := W.cell? ⟨g, 0, none⟩ = some (.string n)
theorem keep4 {w W W' : World} {a b c : Addr} {x y z : Value} (h : Below w.heap.size w W ∧ W.cell? a = some x ∧ W.cell? b = some y ∧ W.cell? c = some z) (hb : Below W.heap.size W W') : Below w.heap.size w W' ∧ W'.cell? a = some x ∧ W'.cell? b = some y ∧ W'.cell? c = some z :=
  ⟨ahead h.1 hb, cell_below h.2.1 hb, cell_below h.2.2.1 hb, cell_below h.2.2.2 hb⟩

theorem get_take {l : List Fld} {k : Nat} {f : Fld} (n : ByteArray) (h : l[k]? = some f) : Fl.get (l.take (k + 1)) n = Fl.get (l.take k) n ++ (if has n f then [f.value] else []) := by
  rw [List.take_add_one, h, get_append]
  simp only [Option.toList_some, Fl.get, List.filter_cons, List.filter_nil]
  cases has n f <;> simp
theorem get_len (l : List Fld) (n : ByteArray) : (Fl.get l n).length ≤ l.length := by
  unfold Fl.get
  rw [List.length_map]
  exact List.length_filter_le _ _
theorem get_take_len (l : List Fld) (k : Nat) (n : ByteArray) : (Fl.get (l.take k) n).length ≤ l.length := by
  have := get_len (l.take k) n
  rw [List.length_take] at this
  omega

theorem run_append_tx (w : World) (ty : TypeId) (base : Nat) (v u : Value) (xs ys : List ByteArray) (hown : w.ownsRow base 9 1 v xs.length (tv xs)) (hu : TX w u ys) (hb : xs.length + ys.length ≤ 1099511627776) (hbase : base ≤ w.heap.size) :
    ∃ v' w', (Builtin.append_ #[23, 23] ty #[v, u]).run Tryd.prog w = .ok v' w' ∧ w'.ownsRow base 9 1 v' (xs ++ ys).length (tv (xs ++ ys)) ∧ w.grownBy w' v.ownBlock := by
  obtain ⟨i0, hi, hz0, hz1, hz2⟩ := info_parts str_info
  obtain ⟨v', w', r0, r1, r2⟩ := run_append_rs w 23 ty 9 i0 _ 1 16 Tryd.underlying23 hi hz0 hz1 hz2 rfl (by decide) base v u _ _ _ _ hown hu (tv_one ys) (by omega) (by omega) hbase
  exact ⟨v', w', r0, by rw [List.length_append, ← tv_app]; exact r1, r2⟩
/-- What a call has gathered so far: a row of its own, above what lay before. -/
structure Told (w wr : World) (v : Value) (xs : List ByteArray) : Prop where
  own : wr.ownsRow w.heap.size 9 1 v xs.length (tv xs)
  below : Below w.heap.size w wr
theorem Told.next {w wr w' : World} {v : Value} {xs : List ByteArray} (h : Told w wr v xs) (hb : Below wr.heap.size wr w') : Told w w' v xs := by
  refine ⟨?_, ahead h.below hb⟩
  refine ⟨h.own.1, ?_⟩
  rcases h.own.2 with h' | ⟨g, cap, cur, rfl, hb', hh, rest⟩
  · exact .inl h'
  · exact .inr ⟨g, cap, cur, rfl, hb', (hb.block g (Array.getElem?_eq_some_iff.1 hh).1).trans hh, rest⟩
/-- One text more. -/
theorem Told.more {w wr : World} {v : Value} {xs : List ByteArray} (h : Told w wr v xs) (s : ByteArray) (ty : TypeId) (hl : xs.length ≤ 1000000) :
    ∃ v' w', (Builtin.append_ #[23, 23] ty #[v, .slice (some ⟨wr.heap.size, 0, none⟩) 1 1]).run Tryd.prog (wr.alloc (.cells #[.string s] 9)) = .ok v' w' ∧ Told w w' v' (xs ++ [s]) := by
  have h1 := h.next (below_box wr (.cells #[.string s] 9))
  have hz := h1.below.size
  obtain ⟨v', w', r0, r1, r2⟩ := run_append_tx (wr.alloc (.cells #[.string s] 9)) ty w.heap.size v _ xs [s] h1.own (tx_one wr s _) (by simp; omega) (by omega)
  exact ⟨v', w', r0, r1, h1.below.grown r2 hz (fun k hk => (h1.own.lt k hk).1)⟩

end Go.Proofs.YtpmgmbekhnjeoaaDoor
