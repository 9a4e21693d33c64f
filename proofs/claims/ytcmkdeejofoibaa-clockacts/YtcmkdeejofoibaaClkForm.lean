/- The program's clock answers as the laws of layer 15 want it. -/
import Derived.Test.YtcmkdeejofoibaaClkGo
namespace Go.Proofs.Ytcmkdeejofoibaa
open Go.ChangeShapes Go.WideShapes Go.ChangeAt Go.RowKit
open Ck
set_option linter.unusedVariables false
set_option maxRecDepth 100000

theorem forms15 : Forms15 C15 where
  lt := fun ⟨m, hM, h⟩ g hg => by
    subst hM
    rcases hg with rfl | rfl
    · exact h.ltR
    · exact h.ltm
  keep := fun ⟨m, hM, h⟩ hk => by
    subst hM
    exact ⟨m, rfl, h.keep (hk _ (.inl rfl)) (hk _ (.inr rfl))⟩
  new := new15_any
  set := set15_any
  clear := clear15_any
  left := left15_any
  now := now15_any
  adv := advance15_any
  timers := fun w _ => timers15_any w
  seq := fun R x M B hok hl l J Jx W hJ hJx hSt hY h0 => by
    obtain ⟨hB, m, rfl, hC⟩ := hSt
    exact timers_seq R m x B hok hl l J Jx W hJ hJx ⟨hB, hC⟩ hY h0

end Go.Proofs.Ytcmkdeejofoibaa
