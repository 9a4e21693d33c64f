/- The iterator over a value's items; marks of several loops in one function. -/
import Derived.Test.YtjdbgdlkbdpojaaDoorListCut
import Derived.Test.YtjdbgdlkbdpojaaDoorRangeLaw
import Derived.Test.YtjdbgdlkbdpojaaDoorFieldSame
import Derived.Test.YtjdbgdlkbdpojaaDoorCellMem
import Derived.Deep.RegionLaw
import Derived.Shelf.RegionOpen
import Derived.Shelf.Abstract
import Derived.TacticsInMore
import Derived.LoopNIn
import Derived.LoopIn
import Derived.OwnWalkIn
import Derived.Sort.QuietIn
import Derived.Shelf.AbstractIn
namespace Go.Proofs.YtjdbgdlkbdpojaaDoor
open Go.ChangeShapes Go.WideShapes Go.ChangeAt Go.RowKit
open Go.Shelf
open Oc Fl Ls
set_option linter.unusedVariables false
attribute [local go_sem] Oper.semAt_some

theorem of_any (s : ByteArray) (w : World) :
    Calls Tryd.prog 21 #[.string s] w fun e w' => e = .returned (.func (.func 32) #[] #[.pointer (some ⟨w.heap.size, 0, none⟩)]) ∧ w' = w.alloc (.cells #[.string s] 9) := by
  go_enter Tryd.func21, Tryd.ntmps21
  go_wp2_with fail
  go_ret
  exact ⟨rfl, rfl⟩

/-- What it hands over. -/
def its (s : ByteArray) : List (Array Value) := (itmB s).map fun x => #[.string x]
theorem its_len (s : ByteArray) : (its s).length = (itmB s).length := by simp [its]
theorem its_get {s : ByteArray} {n : Nat} {x : Array Value} (h : (its s)[n]? = some x) : ∃ y, (itmB s)[n]? = some y ∧ x = #[.string y] := by
  rw [its, List.getElem?_map] at h
  cases hp : (itmB s)[n]? with
  | none => rw [hp] at h; cases h
  | some p => rw [hp] at h; cases h; exact ⟨p, rfl, rfl⟩
theorem drop_get {α : Type} {l m : List α} {n : Nat} {x : α} (h : l.drop n = x :: m) : l[n]? = some x ∧ l.drop (n + 1) = m ∧ n < l.length := by
  have h1 : (l.drop n)[0]? = some x := by rw [h]; rfl
  rw [List.getElem?_drop] at h1
  have h2 : n < l.length := (List.getElem?_eq_some_iff.1 h1).1
  refine ⟨h1, ?_, h2⟩
  rw [← List.drop_drop, h]; rfl
def boolOf : Value → Bool
  | .bool b => b
  | _ => false
def lenOf : Value → Nat
  | .string s => s.size
  | _ => 0
theorem nil_arr : (⟨#[]⟩ : ByteArray) = arr [] := rfl
/-- Where a part of a text stops being one. -/
theorem cut_itm (t : ByteArray) : itmB t = (if trim (ahd 44 t).data.toList = [] then [] else [arr (trim (ahd 44 t).data.toList)]) ++ (if pos 44 t.data.toList < t.data.toList.length then itmB (bhd 44 t) else []) := by
  unfold itmB ahd bhd
  rw [arr_list, arr_list]
  by_cases h : pos 44 t.data.toList < t.data.toList.length
  · rw [if_pos h, itm_some h, List.map_append]
    split <;> rfl
  · rw [if_neg h, itm_none h, List.take_of_length_le (Nat.not_lt.1 h), List.append_nil]
    split <;> rfl
theorem ahd_none {t : ByteArray} (h : ¬ pos 44 t.data.toList < t.data.toList.length) : ahd 44 t = t := by
  unfold ahd; rw [List.take_of_length_le (Nat.not_lt.1 h), arr_of]
/-- strings.Cut at a comma, whichever way. -/
def rst (t : ByteArray) : ByteArray := if pos 44 t.data.toList < t.data.toList.length then bhd 44 t else ⟨#[]⟩
def mor (t : ByteArray) : Bool := decide (pos 44 t.data.toList < t.data.toList.length)
theorem comma_any (t : ByteArray) (w : World) (hs : t.size ≤ 1099511627776) :
    Calls Tryd.prog 33 #[.string t, .string ⟨#[44]⟩] w fun e w' => e = .returned (.tuple #[.string (ahd 44 t), .string (rst t), .bool (mor t)]) ∧ ∃ n, w' = w.drewN n := by
  unfold rst mor
  by_cases h : pos 44 t.data.toList < t.data.toList.length
  · rw [if_pos h, decide_eq_true h]; exact bcut_yes 44 (.inl rfl) t w hs h
  · rw [if_neg h, decide_eq_false h, ahd_none h]; exact bcut_no 44 (.inl rfl) t w h
/-- What is left to hand over. -/
def left (t : ByteArray) (m : Bool) : List ByteArray := if m then itmB t else []
theorem left_cut (t : ByteArray) : left t true = (if trim (ahd 44 t).data.toList = [] then [] else [arr (trim (ahd 44 t).data.toList)]) ++ left (rst t) (mor t) := by
  unfold left rst mor
  rw [if_pos rfl, cut_itm]
  by_cases h : pos 44 t.data.toList < t.data.toList.length
  · rw [if_pos h, if_pos h, decide_eq_true h]; rfl
  · rw [if_neg h, if_neg h, decide_eq_false h]; rfl
def far (t : ByteArray) (m : Bool) : Nat := if m then t.size + 1 else 0
theorem far_cut (t : ByteArray) : far (rst t) (mor t) < far t true := by
  unfold far rst mor
  rw [if_pos rfl]
  by_cases h : pos 44 t.data.toList < t.data.toList.length
  · rw [if_pos h, decide_eq_true h, if_pos rfl]
    unfold bhd
    rw [arr_size, List.length_drop, blen'] at *
    omega
  · rw [if_neg h, decide_eq_false h]; simp
theorem ahd_size (t : ByteArray) : (ahd 44 t).size ≤ t.size := by unfold ahd; rw [arr_size, List.length_take, blen']; omega
theorem rst_size (t : ByteArray) : (rst t).size ≤ t.size := by
  unfold rst
  split
  · unfold bhd; rw [arr_size, List.length_drop, blen']; omega
  · exact Nat.zero_le _

set_option maxHeartbeats 4000000 in
theorem items_seq (Bx : Nat) (s : ByteArray) (hs : s.size ≤ 100000) :
    Seq Tryd.prog 32 #[.pointer (some ⟨Bx, 0, none⟩)] (its s) (fun W => W.cell? ⟨Bx, 0, none⟩ = some (.string s)) False := by
  intro l J Jx W hJ hJx hSt hY h0
  have HY := Lib.hid hY
  have HJ := Lib.hid hJ
  have hc := hSt 0 W h0
  clear hY hJ hJx hSt
  refine callsIn_of_wp Tryd.func32 rfl trivial ?_ rfl
  simp only [Tryd.ntmps32, List.size_toArray, List.length_cons, List.length_nil, Nat.reduceAdd, Nat.reduceSub, Array.replicate_succ, Array.replicate_zero, List.push_toArray, List.append_toArray, List.nil_append, List.cons_append]
  gi_wp2_with fail
  gi_loopw [3, 4] (fun r m wr => ∃ (n : Nat) (t : ByteArray) (b : Bool), r = .string t ∧ m = .bool b ∧ t.size ≤ s.size ∧ n ≤ (its s).length ∧ J n wr ∧ Hid ((itmB s).drop n = left t b) ∧ W.heap.size ≤ wr.heap.size) (fun r m _ => if boolOf m then lenOf r + 1 else 0)
  case atStart => exact ⟨0, s, true, rfl, rfl, Nat.le_refl _, Nat.zero_le _, h0, Lib.hid rfl, Nat.le_refl _⟩
  case round =>
    obtain ⟨n, t, b, rfl, rfl, ht, hn, hJn, HL, hz⟩ := hrel
    cases b with
    | false =>
      gi_wp2_with fail
      refine bodyPost_end (results_none rfl _ _ _) rfl ?_
      refine ⟨⟨_, rfl⟩, .inl ?_⟩
      have hlen := congrArg List.length HL.out
      rw [List.length_drop] at hlen
      have en : n = (its s).length := by rw [its_len] at hn ⊢; simp [left] at hlen; omega
      rw [← en]
      exact hJn
    | true =>
      have HC := Lib.hid (comma_any t wr (by omega))
      rw [left_cut] at HL
      have hfar := far_cut t
      have har := ahd_size t
      have hrs := rst_size t
      have HT : Hid (∀ W, _) := Lib.hid fun W => trim_any (ahd 44 t) W (by omega)
      rw [show (⟨(trim (ahd 44 t).data.toList).toArray⟩ : ByteArray) = arr (trim (ahd 44 t).data.toList) from rfl] at HT
      generalize rst t = rest at *
      generalize mor t = more at *
      by_cases he : trim (ahd 44 t).data.toList = []
      · rw [if_pos he, List.nil_append] at HL
        rw [he, ← nil_arr] at HT
        generalize ahd 44 t = part at *
        clear he
        gi_wp2_with fail
        refine ⟨trivial, rfl, (callsIn_wide.2 HC.out).mono ?_⟩
        rintro e W1 ⟨rfl, m, rfl⟩
        gi_wp2_with fail
        refine ⟨trivial, rfl, (callsIn_wide.2 (HT.out _)).mono ?_⟩
        rintro e W2 ⟨rfl, hb2⟩
        have hJ2 := HJ.out n wr _ hJn (ahead (below_drew m) hb2)
        have hz2 : wr.heap.size ≤ W2.heap.size := hb2.size
        gi_wp2_with fail
        rename_i K' hK' x' h' w' heq'
        refine ⟨(fun _ h => by cases h), hK' _ _ ?_⟩
        clear heq'
        gi_wp2_with fail
        go_roundw
        case rel => exact ⟨n, rest, more, rfl, rfl, by omega, hn, hJ2, HL, by omega⟩
        case measure => exact hfar
      · rw [if_neg he] at HL
        have hne := arr_ne he
        generalize arr (trim (ahd 44 t).data.toList) = item at *
        generalize ahd 44 t = part at *
        obtain ⟨hg, hd, hlt⟩ := drop_get HL.out
        have hnn : (item.toList != []) = true := by unfold bne; rw [hne]; rfl
        have HX : Hid ((its s)[n]? = some #[.string item]) := Lib.hid (by rw [its, List.getElem?_map, hg]; rfl)
        have HD := Lib.hid hd
        rw [← its_len] at hlt
        clear he hg hd
        gi_wp2_with fail
        refine ⟨trivial, rfl, (callsIn_wide.2 HC.out).mono ?_⟩
        rintro e W1 ⟨rfl, m, rfl⟩
        gi_wp2_with fail
        refine ⟨trivial, rfl, (callsIn_wide.2 (HT.out _)).mono ?_⟩
        rintro e W2 ⟨rfl, hb2⟩
        have hJ2 := HJ.out n wr _ hJn (ahead (below_drew m) hb2)
        have hz2 : wr.heap.size ≤ W2.heap.size := hb2.size
        obtain ⟨fn, tm, asg, bo, hy, hR⟩ := HY.out n W2 #[.string item] hJ2 (by omega) HX.out
        clear hb2
        gi_wp2_with fail
        refine ⟨rfl, hR.mono ?_⟩
        rintro e W3 (⟨rfl, hJ3, hs3, -⟩ | ⟨rfl, hx3⟩)
        · clear hy
          gi_wp2_with fail
          go_roundw
          case rel => exact ⟨n + 1, rest, more, rfl, rfl, by omega, by omega, hJ3, HD, by omega⟩
          case measure => exact hfar
        · clear hy
          gi_wp2_with fail
          refine bodyPost_ret (results_none rfl _ _ _) rfl ?_
          exact ⟨⟨_, rfl⟩, .inr ⟨n + 1, by omega, hx3⟩⟩

end Go.Proofs.YtjdbgdlkbdpojaaDoor
