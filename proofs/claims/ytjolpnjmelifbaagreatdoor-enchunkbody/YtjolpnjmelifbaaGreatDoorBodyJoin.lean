/- What the document's Join of slices of bytes answers. -/
import Derived.Test.YtjolpnjmelifbaaGreatDoorByteSlices
namespace Go.Proofs.YtjolpnjmelifbaaGreatDoor
open Go.ChangeShapes Go.WideShapes Go.ChangeAt Go.RowKit
open Oc Fl Bk
set_option linter.unusedVariables false
set_option maxRecDepth 100000

set_option maxHeartbeats 4000000 in
theorem rjoin8_any (cs : List (List UInt8)) (p : Option Addr) (c : Nat) (w : World) (hC : CS w (.slice p cs.length c) cs) (hl : cs.flatten.length ≤ 1000000) (hn : cs.length ≤ 1000000) :
    Calls Tryz.prog 10 #[.slice p cs.length c] w fun x w' => ∃ v, x = .returned v ∧ RD w' v cs.flatten ∧ Below w.heap.size w w' := by
  have HC := Lib.hid hC
  clear hC
  go_enter Tryz.func10, Tryz.ntmps10
  go_wp2_with fail
  go_loopw [3, 4] (fun v i wr => ∃ (k : Nat), k ≤ cs.length ∧ i = .int .i64 k ∧ Hid (wr.ownsRow w.heap.size 5 1 v (cs.take k).flatten.length (bv (cs.take k).flatten) ∧ Below w.heap.size w wr)) (fun _ i _ => cs.length - (intOf i).toNat)
  case atStart => exact ⟨0, Nat.zero_le _, rfl, Lib.hid ⟨⟨rfl, .inl ⟨rfl, rfl⟩⟩, Below.refl _ _⟩⟩
  case round =>
    obtain ⟨k, hk, rfl, HB⟩ := hrel
    have hfk := flat_take cs k
    by_cases hlt : k < cs.length
    · obtain ⟨x, hx⟩ : ∃ x, cs[k]? = some x := ⟨_, List.getElem?_eq_getElem hlt⟩
      obtain ⟨-, ad, pu, cu, rfl, c0, hu⟩ := (HC.out.below HB.out.2).at hx
      have hxl := flat_mem (List.mem_of_getElem? hx)
      have e1 : (cs.take (k + 1)).flatten = (cs.take k).flatten ++ x := by rw [List.take_add_one, hx]; simp
      obtain ⟨v', w', hrun, hown, hg⟩ := run_append_rd wr 25 w.heap.size _ _ _ _ _ HB.out.1 hu (by omega) HB.out.2.size
      have HN := Lib.hid (And.intro (show w'.ownsRow w.heap.size 5 1 v' (cs.take (k + 1)).flatten.length (bv (cs.take (k + 1)).flatten) by rw [e1]; simpa [bv] using hown) (HB.out.2.grown hg HB.out.2.size (fun k hk => (HB.out.1.lt k hk).1)))
      have HR := Lib.hid hrun
      clear hown hg hu hx e1 hrun
      go_wp2_with (at_builtin; refine wpList_append_run rfl (.tmp 11) (.tmp 15) 25 rfl _ _ _ _ rfl rfl HR.out ?_)
      go_roundw
      case rel => exact ⟨k + 1, by omega, by go_num, HN⟩
      case measure => simp [intOf]; omega
    · obtain rfl : k = cs.length := by omega
      rw [List.take_length] at *
      go_wp2_with fail
      go_ret
      exact ⟨_, rfl, RD.of_own HB.out.1, HB.out.2⟩
theorem rjoin8_is (cs : List (List UInt8)) (nf : Nat) (hnf : cs.flatten.length = nf) (p : Option Addr) (c : Nat) (w : World) (hC : CS w (.slice p cs.length c) cs) (hl : nf ≤ 1000000) (hn : cs.length ≤ 1000000) :
    Calls Tryz.prog 10 #[.slice p cs.length c] w fun x w' => ∃ pj kj, x = .returned (.slice pj nf kj) ∧ RD w' (.slice pj nf kj) cs.flatten ∧ Below w.heap.size w w' := by
  subst hnf
  refine (rjoin8_any cs p c w hC hl hn).mono ?_
  rintro x w' ⟨v, rfl, h1, h2⟩
  obtain ⟨pj, kj, rfl, -⟩ := id h1
  exact ⟨pj, kj, rfl, h1, h2⟩

end Go.Proofs.YtjolpnjmelifbaaGreatDoor
