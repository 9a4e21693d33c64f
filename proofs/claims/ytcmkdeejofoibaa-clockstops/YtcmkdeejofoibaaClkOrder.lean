/- The program's clock: all its timers, in order. -/
import Derived.Test.YtcmkdeejofoibaaClkCmp
import Derived.Test.YtcmkdeejofoibaaShelf
import Derived.Sort.OwnSorted
import Derived.OwnWalk
namespace Go.Proofs.Ytcmkdeejofoibaa
open Go.ChangeShapes Go.WideShapes Go.ChangeAt Go.RowKit
open Go.Sort Go.Shelf
open Ck
set_option linter.unusedVariables false
set_option maxRecDepth 100000

instance : Inhabited Tm := ⟨⟨0, 0⟩⟩
def encT (x : Tm) : List Value := [.int .i64 x.id, .int .i64 x.due]
theorem ltOf15 : ltOf cmpT = lt := by funext x y; exact cmpT_lt x y
theorem swo15 : SWO (ltOf cmpT) where
  irrefl x := by rw [ltOf15]; unfold lt; simp
  trans x y z h1 h2 := by rw [ltOf15] at *; exact lt_trans h1 h2
  ntrans x y z h1 h2 := by rw [ltOf15] at *; unfold lt at *; simp at *; omega
theorem tmv_cell {l : List Tm} {j : Nat} (hj : j < l.length * 2) : (tmv l)[j]? = some (encT l.toArray[j / 2]!)[j % 2]! := by
  have hl : j / 2 < l.length := by omega
  obtain ⟨t, hg⟩ : ∃ t, l[j / 2]? = some t := ⟨_, List.getElem?_eq_getElem hl⟩
  have ha : l.toArray[j / 2]! = t := by simp [hg]
  obtain ⟨h0, h1⟩ := tmv_get hg
  rw [ha]
  rcases (by omega : j % 2 = 0 ∨ j % 2 = 1) with h | h
  · rw [show j / 2 * 2 = j by omega] at h0
    rw [h, h0]; rfl
  · rw [show j / 2 * 2 + 1 = j by omega] at h1
    rw [h, h1]; rfl
theorem holds15 {w : World} {g : Nat} {cur : Array Value} {e : TypeId} {l : List Tm} (hb : w.heap[g]? = some (.cells cur e (0, 0))) (ht : cur.toList.take (l.length * 2) = tmv l) : HoldsK encT 2 w g 0 l.toArray := by
  intro j hj
  have hj' : j < l.length * 2 := by simpa using hj
  refine ⟨?_, by simp [World.frozen?, hb]⟩
  rw [get_flatK _ _ _ _ (by simpa using hj')]
  have h1 : (cur.toList.take (l.length * 2))[j]? = (tmv l)[j]? := by rw [ht]
  rw [List.getElem?_take_of_lt hj', tmv_cell hj'] at h1
  simp only [World.cell?, hb, Nat.zero_add, Option.isSome_none, Bool.false_eq_true, if_false]
  rw [← Array.getElem?_toList, h1]
  rfl
theorem sorted_ts {w : World} {g n cap : Nat} {os : Array Obj} {l : List Tm} {d : Array Tm} (hH : HoldsK encT 2 w g 0 d) (hg : g < w.heap.size) (hd : d.size = l.length) (h1 : l.length ≤ cap) (h2 : cap ≤ maxLen) :
    TS (sortWorldK encT 2 w g 0 n l.toArray os) (.slice (some ⟨g, 0, none⟩) l.length cap) l := by
  have hh := holdsK_sortWorldK_c encT 2 w g 0 d l.toArray n os hH hg (by simp [hd])
  refine ⟨tmv_len l, some ⟨g, 0, none⟩, cap, rfl, h1, h2, (fun h => by cases h), fun ad hp i u hu => ?_⟩
  cases hp
  have hi : i < l.length * 2 := by rw [← tmv_len]; exact (List.getElem?_eq_some_iff.1 hu).1
  rw [tmv_cell hi] at hu
  obtain rfl := Option.some.inj hu
  have := (hh i (by simpa using hi)).1
  rw [get_flatK _ _ _ _ (by simpa using hi)] at this
  have e : (⟨g, 0, none⟩ : Addr).add i = ⟨g, 0 + i, none⟩ := by
    cases i with
    | zero => rfl
    | succ i => exact Addr.add_succ' _ i
  rw [e]
  exact this
theorem sorted_grown {w : World} {g n : Nat} {os : Array Obj} (d : Array Tm) : w.grownBy (sortWorldK encT 2 w g 0 n d os) (some g) := by
  refine ⟨rfl, rfl, rfl, size_sortWorldK_c encT 2 w g 0 n d os, fun k hk hne => ?_⟩
  unfold sortWorldK putRowK
  rw [heap_grow_old _ _ (by simpa using hk)]
  have : g ≠ k := fun e => hne (by rw [e])
  simp [putRow, mapBlock, Sort.ahead, Array.getElem?_modify, this]

theorem timer_info : (Try.prog.info? 69).map (fun i => (i.zero, i.size, i.bytes)) = some (some (.agg #[.int .i64 0, .int .i64 0]), 2, 16) := by kernel_rfl
theorem cmpLays15 (blk off size : Nat) (w : World) : CmpLays Try.prog 25 #[] encT 2 cmpT blk off size w := fun m os dk _ x y => (cmpT_any x y _).mono fun e w' ⟨h1, os', h2⟩ => ⟨h1, 1, os', h2⟩
theorem sort15_any (g cap : Nat) (l : List Tm) (w : World) (hH : HoldsK encT 2 w g 0 l.toArray) (hg : g < w.heap.size) (hl : l.length ≤ 1000000) :
    Calls Try.prog 24 #[.slice (some ⟨g, 0, none⟩) l.length cap, .func (.func 25) #[] #[]] w fun e w' => e = .returned (.tuple #[]) ∧ ∃ n os, w' = sortWorldK encT 2 w g 0 n (l.mergeSort fun x y => !lt y x).toArray os := by
  have eg : ∀ args w, (callFunc 25 args).run Try.prog w = .ok (.enter 25 args) w := enters_of Try.func25 (by kernel_rfl) rfl
  have h := AnyQ.slices_SortFunc_total Try.sortT 2 Try.isAgg69 Try.sizeOf69 encT (fun _ => rfl) (fun x v hv => by simp [encT] at hv; rcases hv with rfl | rfl <;> rfl) cmpT swo15 25 #[] g 0 cap l.toArray w eg (cmpLays15 g 0 l.toArray.size w) hH hg (by simp; omega) (fun x y h1 h2 => by rw [ltOf15] at h1 h2; exact lt_one h1 h2)
  simp only [ltOf15, List.size_toArray] at h
  exact h

end Go.Proofs.Ytcmkdeejofoibaa
