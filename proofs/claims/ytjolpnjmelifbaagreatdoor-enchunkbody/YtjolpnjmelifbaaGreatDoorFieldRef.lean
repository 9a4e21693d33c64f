/- What the document's Parse, Put, and field.Put, answer. -/
import Derived.Test.YtjolpnjmelifbaaGreatDoorFieldGo
namespace Go.Proofs.YtjolpnjmelifbaaGreatDoor
open Go.ChangeShapes Go.WideShapes Go.ChangeAt Go.RowKit
open Oc Fl
set_option linter.unusedVariables false
set_option maxRecDepth 100000

theorem col_stop {s : ByteArray} {k : Nat} (hk : k ≤ col s) (h : k < s.size) (hb : ((s[k].toNat : Int) == 58) = true) : k = col s := by
  have : s[k] = 58 := by
    have := beq_iff_eq.1 hb
    have h2 : s[k].toNat = 58 := by omega
    exact UInt8.toNat_inj.1 h2
  have := col_le_of h this
  omega
theorem col_go {s : ByteArray} {k : Nat} (hk : k ≤ col s) (h : k < s.size) (hb : ((s[k].toNat : Int) == 58) = false) : k + 1 ≤ col s := by
  by_cases e : k = col s
  · subst e
    have := col_at h
    rw [this] at hb
    exact absurd hb (by decide)
  · omega

theorem put_val (f : Fld) (h : f.value.size = 0) : f.name ++ ⟨#[58]⟩ = line f := by unfold line; rw [if_pos h]
theorem put_val' (f : Fld) (h : ¬ f.value.size = 0) : f.name ++ ⟨#[58]⟩ ++ ⟨#[32]⟩ ++ f.value = line f := by unfold line; rw [if_neg h]
theorem put_val'' (f : Fld) (h : ¬ f.value.size = 0) : f.name ++ ⟨#[58, 32]⟩ ++ f.value = line f := by
  rw [← put_val' f h]
  refine b_ext ?_
  simp

set_option maxHeartbeats 2000000 in
theorem put_bad (f : Fld) (w : World) (hn : f.name.size ≤ 1099511627776) (hv : f.value.size ≤ 1099511627776) (hsp : Spans w) (hr : right f = false) :
    Calls Tryz.prog 120 #[fld f] w fun e w' => e = .returned (.tuple #[.string ⟨#[]⟩, .int .i64 1]) ∧ Below w.heap.size w w' := by
  have hR : Hid (∀ W, Below w.heap.size w W → _) := Lib.hid fun W hb => right_any f W hn hv (hsp.below hb)
  rw [hr] at hR
  clear hsp hr
  obtain ⟨n, v⟩ := f
  have hbox : Hid (∀ t, Below w.heap.size w (w.alloc (.cells #[.string n, .string v] t))) := Lib.hid fun t => below_box w _
  go_enter Tryz.func120, Tryz.ntmps120
  go_wp2_with fail
  refine (hR.out _ (below_box _ _)).mono ?_
  rintro e w' ⟨rfl, hb1⟩
  replace hb1 := Lib.hid (ahead (hbox.out _) hb1)
  go_wp2_with fail
  go_ret2
  exact ⟨rfl, hb1.out⟩

set_option maxHeartbeats 2000000 in
theorem put_good (f : Fld) (w : World) (hn : f.name.size ≤ 1099511627776) (hv : f.value.size ≤ 1099511627776) (hsp : Spans w) (hr : right f = true) :
    Calls Tryz.prog 120 #[fld f] w fun e w' => e = .returned (.tuple #[.string (line f), .int .i64 0]) ∧ Below w.heap.size w w' := by
  have hR : Hid (∀ W, Below w.heap.size w W → _) := Lib.hid fun W hb => right_any f W hn hv (hsp.below hb)
  rw [hr] at hR
  clear hsp hr
  have hP0 := Lib.hid (put_val f)
  have hP1 := Lib.hid (put_val' f)
  obtain ⟨n, v⟩ := f
  have hbox : Hid (∀ t, Below w.heap.size w (w.alloc (.cells #[.string n, .string v] t))) := Lib.hid fun t => below_box w _
  generalize line ⟨n, v⟩ = z at *
  simp only at hP0 hP1 hn hv
  by_cases h0 : v.size = 0
  · have hz := Lib.hid (hP0.out h0)
    obtain rfl : v = ⟨#[]⟩ := bempty h0
    clear h0 hP0 hP1
    go_enter Tryz.func120, Tryz.ntmps120
    go_wp2_with fail
    refine (hR.out _ (below_box _ _)).mono ?_
    rintro e w' ⟨rfl, hb1⟩
    have hx := two_cells (two_below (box_cells w _ _ _) hb1)
    obtain ⟨c0, c1, _⟩ := hx
    replace hb1 := Lib.hid (ahead (hbox.out _) hb1)
    go_wp2_with fail
    go_ret2
    refine ⟨?_, hb1.out⟩
    rw [← hz.out]
    first | rfl | simp
  · have hz := Lib.hid (hP1.out h0)
    have hne : (v.toList == []) = false := by
      rw [ByteArray.toList_eq, beq_eq_false_iff_ne]
      intro e
      exact h0 (by rw [← blen', e]; rfl)
    clear h0 hP0 hP1
    go_enter Tryz.func120, Tryz.ntmps120
    go_wp2_with fail
    refine (hR.out _ (below_box _ _)).mono ?_
    rintro e w' ⟨rfl, hb1⟩
    have hx := two_cells (two_below (box_cells w _ _ _) hb1)
    obtain ⟨c0, c1, _⟩ := hx
    replace hb1 := Lib.hid (ahead (hbox.out _) hb1)
    go_wp2_with fail
    go_ret2
    refine ⟨?_, hb1.out⟩
    rw [← hz.out]
    first | rfl | simp

end Go.Proofs.YtjolpnjmelifbaaGreatDoor
