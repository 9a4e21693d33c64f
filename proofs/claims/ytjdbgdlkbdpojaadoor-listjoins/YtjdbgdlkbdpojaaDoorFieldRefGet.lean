/- What field.Get, and the document's Get, Texts, answer. -/
import Derived.Test.YtjdbgdlkbdpojaaDoorFieldGet
namespace Go.Proofs.YtjdbgdlkbdpojaaDoor
open Go.ChangeShapes Go.WideShapes Go.ChangeAt Go.RowKit
open Oc Fl
set_option linter.unusedVariables false

set_option maxHeartbeats 2000000 in
theorem texts_any (a b : List ByteArray) (u v : Value) (w : World) (ha : TX w u a) (hb : TX w v b) (hla : a.length ≤ 1000000) (hlb : b.length ≤ 1000000) (hab : a = b) :
    Calls Tryd.prog 10 #[u, v] w fun e w' => e = .returned (.bool true) ∧ Below w.heap.size w w' := by
  subst hab
  obtain ⟨p, c, rfl, -, -⟩ := RS.slice ha
  obtain ⟨q, d, rfl, -, -⟩ := RS.slice hb
  have HA := Lib.hid ha
  have HB := Lib.hid hb
  clear ha hb
  go_enter Tryd.func10, Tryd.ntmps10
  go_wp2_with fail
  go_loopw [5] (fun i wr => ∃ (k : Nat), k ≤ a.length ∧ i = .int .i64 k ∧ Below w.heap.size w wr) (fun i _ => a.length - (intOf i).toNat)
  case atStart => exact ⟨0, Nat.zero_le _, rfl, Below.refl _ _⟩
  case round =>
    obtain ⟨k, hk, rfl, hT⟩ := hrel
    have HT := Lib.hid hT
    clear hT
    by_cases hlt : k < a.length
    · obtain ⟨s, hs⟩ : ∃ s, a[k]? = some s := ⟨_, List.getElem?_eq_getElem hlt⟩
      obtain ⟨-, ad, rfl, c0⟩ := (HA.out.below HT.out).at hs
      obtain ⟨-, bd, rfl, d0⟩ := (HB.out.below HT.out).at hs
      have hss : (s.toList == s.toList) = true := beq_self_eq_true _
      clear hs
      have k1 : (0 : Int) ≤ (k : Int) := by omega
      have k2 : (k : Int) < (a.length : Int) := by omega
      go_wp2_with fail
      go_quiet (fail)
      go_wp2_with fail
      go_roundw
      case rel => exact ⟨k + 1, by omega, by go_num, by first | exact below_drewN HT.out _ | exact HT.out.drew⟩
      case measure => simp [intOf]; omega
    · go_wp2_with fail
      go_ret
      exact ⟨rfl, HT.out⟩

end Go.Proofs.YtjdbgdlkbdpojaaDoor
