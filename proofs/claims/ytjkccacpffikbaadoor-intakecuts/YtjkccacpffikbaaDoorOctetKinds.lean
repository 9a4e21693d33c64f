/- What octet.Token, octet.Text, and the document's Token, Text, token, Byte, blank answer. -/
import Derived.Test.YtjkccacpffikbaaDoorOctetGo
namespace Go.Proofs.YtjkccacpffikbaaDoor
open Go.ChangeShapes Go.WideShapes Go.ChangeAt Go.RowKit
open Oc
set_option linter.unusedVariables false
set_option maxRecDepth 100000

theorem bempty {s : ByteArray} (h : s.size = 0) : s = ⟨#[]⟩ := ByteArray.size_eq_zero_iff.1 h
theorem bne_of (s : ByteArray) (h : ¬ s.size = 0) : s.toList.isEmpty = false := by
  rw [ByteArray.toList_eq]; cases s; rename_i d; cases d; rename_i l; cases l with
  | nil => exact absurd rfl h
  | cons => rfl
theorem bne_data (s : ByteArray) (h : ¬ s.size = 0) : s.data.toList.isEmpty = false := by
  cases s; rename_i d; cases d; rename_i l; cases l with
  | nil => exact absurd rfl h
  | cons => rfl
theorem token_ne {s : ByteArray} (h : ¬ s.size = 0) : token s.data.toList = every tokB s.data.toList := by
  unfold token; rw [bne_data s h]; rfl

set_option maxHeartbeats 400000 in
theorem token_any (s : ByteArray) (w : World) (hs : s.size ≤ 1099511627776) (hsp : Spans w) :
    Calls Tryd.prog 43 #[.string s] w fun e w' => e = .returned (.bool (token s.data.toList)) ∧ Below w.heap.size w w' := by
  by_cases h0 : s.size = 0
  · obtain rfl : s = ⟨#[]⟩ := bempty h0
    go_enter Tryd.func43, Tryd.ntmps43
    go_wp2_with fail
    go_ret
    exact ⟨ret_bool (by decide), Below.refl _ _⟩
  · have hne := bne_of s h0
    have hA := all_any tokB 49 s w hs (enters_of Tryd.func49 (by kernel_rfl) rfl) (fun c w' c0 c1 hb => tok_any c c0 c1 w' (hsp.below hb))
    go_enter Tryd.func43, Tryd.ntmps43
    go_wp2_with (go_at_call 47; refine hA.mono ?_; rintro e w' ⟨rfl, hb⟩)
    go_ret
    exact ⟨ret_bool (by rw [token_ne h0]), hb⟩

set_option maxHeartbeats 400000 in
theorem text_any (s : ByteArray) (w : World) (hs : s.size ≤ 1099511627776) :
    Calls Tryd.prog 40 #[.string s] w fun e w' => e = .returned (.bool (text s.data.toList)) ∧ Below w.heap.size w w' := by
  have hA := all_any txtB 48 s w hs (enters_of Tryd.func48 (by kernel_rfl) rfl) (fun c w' c0 c1 hb => (txt_any c c0 c1 w').mono fun e w'' ⟨he, hw⟩ => ⟨he, hw ▸ Below.refl _ _⟩)
  go_enter Tryd.func40, Tryd.ntmps40
  go_wp2_with (go_at_call 47; refine hA.mono ?_; rintro e w' ⟨rfl, hb⟩)
  go_ret
  exact ⟨rfl, hb⟩

end Go.Proofs.YtjkccacpffikbaaDoor
