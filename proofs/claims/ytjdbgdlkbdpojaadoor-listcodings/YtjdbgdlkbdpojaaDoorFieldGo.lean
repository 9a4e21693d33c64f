/- What field.Right, Put, Parse, and the document's, answer. -/
import Derived.Test.YtjdbgdlkbdpojaaDoorFieldMath
import Derived.Test.YtjdbgdlkbdpojaaDoorOctetTrim
namespace Go.Proofs.YtjdbgdlkbdpojaaDoor
open Go.ChangeShapes Go.WideShapes Go.ChangeAt Go.RowKit
open Oc Fl
set_option linter.unusedVariables false

/-- A field as a value. -/
abbrev fld (f : Fld) : Value := .agg #[.string f.name, .string f.value]

set_option maxHeartbeats 400000 in
theorem colon_low (s : ByteArray) (w : World) :
    Calls Tryd.prog 53 #[.string s, .int .u8 58] w fun e w' => e = .returned (.int .i64 (colI s)) ∧ w = w' := by
  have hc : Hid (Lib.indexByte s.data.toList 58 = colI s) := Lib.hid (col_index s)
  go_enter Tryd.func53, Tryd.ntmps53
  go_wp2
  rw [run_callFunc_extern Tryd.func58 (by kernel_rfl) (by kernel_rfl) (by kernel_rfl) (e := Extern.BytealgIndexByte.indexByte) (by kernel_rfl), Lib.run_indexByteString]
  simp only [Result.andThen]
  rw [Oper.upon_value]
  go_wp2
  go_ret
  exact ⟨by rw [← hc.out]; rfl, rfl⟩

theorem one_colon {s : ByteArray} (h : ([58] == s.toList) = true) : colI s = 0 := by
  have h1 : s.data.toList = [58] := by rw [ByteArray.toList_eq] at h; exact (beq_iff_eq.1 h).symm
  have h2 : s = ⟨#[58]⟩ := b_ext h1
  subst h2
  decide

set_option maxHeartbeats 1000000 in
theorem colon_any (s : ByteArray) (w : World) :
    Calls Tryd.prog 54 #[.string s, .string ⟨#[58]⟩] w fun e w' => e = .returned (.int .i64 (colI s)) ∧ w = w' := by
  have hc := Lib.hid (colon_low s w)
  cases h1 : ([58] == s.toList)
  · go_enter Tryd.func54, Tryd.ntmps54
    go_wp2_with (go_at_call 53; refine hc.out.mono ?_; rintro e w' ⟨rfl, rfl⟩)
    go_ret
    exact ⟨rfl, rfl⟩
  · rw [one_colon h1]
    go_enter Tryd.func54, Tryd.ntmps54
    go_wp2_with fail
    go_ret
    exact ⟨rfl, rfl⟩

set_option maxHeartbeats 1000000 in
theorem cut_some (s : ByteArray) (w : World) (hs : s.size ≤ 1099511627776) (h : col s < s.size) :
    Calls Tryd.prog 48 #[.string s, .string ⟨#[58]⟩] w fun e w' => e = .returned (.tuple #[.string (before s), .string (behind s), .bool true]) ∧ ∃ n, w' = w.drewN n := by
  have hc := Lib.hid (colon_any s w)
  rw [colI_some h] at hc
  have hbf := Lib.hid (show s.extract 0 (col s) = before s from rfl)
  have hbh := Lib.hid (show s.extract (col s + 1) s.size = behind s from rfl)
  generalize before s = x at hbf ⊢
  generalize behind s = y at hbh ⊢
  generalize col s = k at hc h hbf hbh
  have c1 : (0 : Int) ≤ (k : Int) := by omega
  have c2 : (k : Int) ≤ (s.size : Int) := by omega
  have c3 : (0 : Int) ≤ (k : Int) + 1 := by omega
  have c4 : (k : Int) + 1 ≤ (s.size : Int) := by omega
  go_enter Tryd.func48, Tryd.ntmps48
  go_wp2_with (go_at_call 54; refine hc.out.mono ?_; rintro e w' ⟨rfl, rfl⟩)
  go_quiet (fail)
  go_wp2
  go_ret3
  refine ⟨?_, _, rfl⟩
  first | (rw [← hbf.out, ← hbh.out]; rfl) | (rw [← hbf.out, ← hbh.out]; simp)

set_option maxHeartbeats 1000000 in
theorem cut_none (s : ByteArray) (w : World) (h : ¬ col s < s.size) :
    Calls Tryd.prog 48 #[.string s, .string ⟨#[58]⟩] w fun e w' => e = .returned (.tuple #[.string s, .string ⟨#[]⟩, .bool false]) ∧ ∃ n, w' = w.drewN n := by
  have hc := Lib.hid (colon_any s w)
  rw [colI_none h] at hc
  clear h
  go_enter Tryd.func48, Tryd.ntmps48
  go_wp2_with (go_at_call 54; refine hc.out.mono ?_; rintro e w' ⟨rfl, rfl⟩)
  go_ret3
  exact ⟨rfl, 0, rfl⟩

set_option maxHeartbeats 1000000 in
theorem cut_yes (s : ByteArray) (w : World) (hs : s.size ≤ 1099511627776) (h : col s < s.size) :
    Calls Tryd.prog 33 #[.string s, .string ⟨#[58]⟩] w fun e w' => e = .returned (.tuple #[.string (before s), .string (behind s), .bool true]) ∧ ∃ n, w' = w.drewN n := by
  have hc := Lib.hid (cut_some s w hs h)
  clear h
  go_enter Tryd.func33, Tryd.ntmps33
  go_wp2_with (go_at_call 48; refine hc.out.mono ?_; rintro e w' ⟨rfl, n, rfl⟩)
  go_ret3
  exact ⟨rfl, n, rfl⟩
set_option maxHeartbeats 1000000 in
theorem cut_no (s : ByteArray) (w : World) (h : ¬ col s < s.size) :
    Calls Tryd.prog 33 #[.string s, .string ⟨#[58]⟩] w fun e w' => e = .returned (.tuple #[.string s, .string ⟨#[]⟩, .bool false]) ∧ ∃ n, w' = w.drewN n := by
  have hc := Lib.hid (cut_none s w h)
  clear h
  go_enter Tryd.func33, Tryd.ntmps33
  go_wp2_with (go_at_call 48; refine hc.out.mono ?_; rintro e w' ⟨rfl, n, rfl⟩)
  go_ret3
  exact ⟨rfl, n, rfl⟩

theorem below_box (w : World) (o : _) : Below w.heap.size w (w.alloc o) := Below.alloc (Below.refl _ _) (Nat.le_refl _) o
theorem ahead {w w1 w2 : World} (h1 : Below w.heap.size w w1) (h2 : Below w1.heap.size w1 w2) : Below w.heap.size w w2 := h1.trans (h2.mono h1.size)
theorem box_cells (w : World) (x y : Value) (t : TypeId) : (w.alloc (.cells #[x, y] t)).heap[w.heap.size]? = some (.cells #[x, y] t (0, 0)) := heap_alloc_new w _
theorem two_cells {A : World} {R : Nat} {x y : Value} {t : TypeId} (h : A.heap[R]? = some (.cells #[x, y] t (0, 0))) :
    A.cell? ⟨R, 0, none⟩ = some x ∧ A.cell? ⟨R, 1, none⟩ = some y ∧ ∀ i, A.frozen? ⟨R, i, none⟩ = false := by
  simp [World.cell?, World.frozen?, h]
theorem two_below {A B : World} {R : Nat} {x y : Value} {t : TypeId} (h : A.heap[R]? = some (.cells #[x, y] t (0, 0))) (hb : Below A.heap.size A B) : B.heap[R]? = some (.cells #[x, y] t (0, 0)) := by
  have hl : R < A.heap.size := (Array.getElem?_eq_some_iff.1 h).1
  rw [hb.block R hl, h]

theorem results_two {P : Program} {fn : Func} {p u : Tmp} {ty : TypeId} (h : fn.results = #[.cell p ty, .tmp u]) (tmps : Array Value) (w : World) (g : Nat) (t : TypeId) (cs : Array Value) (fr : Nat × Nat) (d : TypeDesc)
    (hp : tmps.getD p undef = .pointer (some ⟨g, 0, none⟩)) (hg : w.heap[g]? = some (.cells cs t fr))
    (hu : P.underlying ty = some d) (hd : (match d with | .struct _ | .array _ _ => true | _ => false) = true) (hi : (P.info? ty).map (·.size) = some cs.size) :
    (results fn tmps).run P w = .ok (.tuple #[.agg cs, tmps.getD u undef]) w := by
  rw [results_cell_tmp h]
  simp [hp, asAddr, run_loadVar_row w g t ty cs fr d hg hu hd hi, Result.andThen]

def noFld : Fld := ⟨⟨#[]⟩, ⟨#[]⟩⟩

end Go.Proofs.YtjdbgdlkbdpojaaDoor
