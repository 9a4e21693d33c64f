/- What block.next and block.measure answer. -/
import Derived.Test.YtilebfpaibajcaaGreatDoorMB
import Derived.Test.YtilebfpaibajcaaGreatDoorFieldGo
namespace Go.Proofs.YtilebfpaibajcaaGreatDoor
open Go.ChangeShapes Go.WideShapes Go.ChangeAt Go.RowKit
open Oc Fl Bk
set_option linter.unusedVariables false
set_option maxRecDepth 100000

theorem tok_one (b : UInt8) : token [b] = tkb b := by simp [token, every, tkb]
theorem txt_one (b : UInt8) : text [b] = txb b := by simp [text, every, txb]
theorem ret_i64 {a b : Int} (h : a = b) : Ending.returned (.int .i64 a) = .returned (.int .i64 b) := by rw [h]

/-- A text of one byte. -/
structure One (c : ByteArray) (b : UInt8) : Prop where
  list : c.data.toList = [b]
theorem One.size {c : ByteArray} {b : UInt8} (h : One c b) : c.size = 1 := by rw [← blen', h.list]; rfl
theorem One.eq {c : ByteArray} {b : UInt8} (h : One c b) (d : UInt8) : (c.toList == [d]) = decide (b = d) := by
  rw [ByteArray.toList_eq, h.list, Bool.eq_iff_iff]; simp

set_option maxHeartbeats 1000000 in
theorem next_any (q : Nat) (hq : 1 ≤ q ∧ q ≤ 5) (c : ByteArray) (b : UInt8) (hc : One c b) (w : World) (hsp : Spans w) :
    Calls Tryz.prog 88 #[.int .i64 (q : Int), .string c] w fun e w' => e = .returned (.int .i64 (nx q b : Nat)) ∧ Below w.heap.size w w' := by
  have hT := Lib.hid (token_any c w (by rw [hc.size]; decide) hsp)
  have hX := Lib.hid (text_any c w (by rw [hc.size]; decide))
  rw [hc.list, tok_one] at hT
  rw [hc.list, txt_one] at hX
  have c13 := hc.eq 13
  have c58 := hc.eq 58
  have c10 := hc.eq 10
  clear hc hsp
  have h5 : q = 1 ∨ q = 2 ∨ q = 3 ∨ q = 4 ∨ q = 5 := by omega
  clear hq
  rcases h5 with rfl | rfl | rfl | rfl | rfl
  · clear hX c58 c10
    by_cases e : b = 13
    · rw [decide_eq_true e] at c13
      rw [show nx 1 b = 5 by rw [e]; exact nx1_13]
      clear e hT
      go_enter Tryz.func88, Tryz.ntmps88
      go_wp2_with fail
      go_ret
      exact ⟨rfl, Below.refl _ _⟩
    · rw [decide_eq_false e] at c13
      cases ht : tkb b
      · rw [nx1_no ht e]
        rw [ht] at hT
        clear e ht
        go_enter Tryz.func88, Tryz.ntmps88
        go_wp2_with (go_at_call 91; refine hT.out.mono ?_; rintro e w' ⟨rfl, hb⟩)
        go_ret
        exact ⟨rfl, hb⟩
      · rw [nx1_tok ht]
        rw [ht] at hT
        clear e ht
        go_enter Tryz.func88, Tryz.ntmps88
        go_wp2_with (go_at_call 91; refine hT.out.mono ?_; rintro e w' ⟨rfl, hb⟩)
        go_ret
        exact ⟨rfl, hb⟩
  · clear hX c13 c10
    by_cases e : b = 58
    · rw [decide_eq_true e] at c58
      rw [show nx 2 b = 3 by rw [e]; exact nx2_58]
      clear e hT
      go_enter Tryz.func88, Tryz.ntmps88
      go_wp2_with fail
      go_ret
      exact ⟨rfl, Below.refl _ _⟩
    · rw [decide_eq_false e] at c58
      cases ht : tkb b
      · rw [nx2_no ht e]
        rw [ht] at hT
        clear e ht
        go_enter Tryz.func88, Tryz.ntmps88
        go_wp2_with (go_at_call 91; refine hT.out.mono ?_; rintro e w' ⟨rfl, hb⟩)
        go_ret
        exact ⟨rfl, hb⟩
      · rw [nx2_tok ht]
        rw [ht] at hT
        clear e ht
        go_enter Tryz.func88, Tryz.ntmps88
        go_wp2_with (go_at_call 91; refine hT.out.mono ?_; rintro e w' ⟨rfl, hb⟩)
        go_ret
        exact ⟨rfl, hb⟩
  · clear hT c58 c10
    by_cases e : b = 13
    · rw [decide_eq_true e] at c13
      rw [show nx 3 b = 4 by rw [e]; exact nx3_13]
      clear e hX
      go_enter Tryz.func88, Tryz.ntmps88
      go_wp2_with fail
      go_ret
      exact ⟨rfl, Below.refl _ _⟩
    · rw [decide_eq_false e] at c13
      cases ht : txb b
      · rw [nx3_no ht e]
        rw [ht] at hX
        clear e ht
        go_enter Tryz.func88, Tryz.ntmps88
        go_wp2_with (go_at_call 82; refine hX.out.mono ?_; rintro e w' ⟨rfl, hb⟩)
        go_ret
        exact ⟨rfl, hb⟩
      · rw [nx3_txt ht]
        rw [ht] at hX
        clear e ht
        go_enter Tryz.func88, Tryz.ntmps88
        go_wp2_with (go_at_call 82; refine hX.out.mono ?_; rintro e w' ⟨rfl, hb⟩)
        go_ret
        exact ⟨rfl, hb⟩
  · clear hT hX c58 c13
    by_cases e : b = 10
    · rw [decide_eq_true e] at c10
      rw [show nx 4 b = 1 by rw [e]; exact nx4_10]
      clear e
      go_enter Tryz.func88, Tryz.ntmps88
      go_wp2_with fail
      go_ret
      exact ⟨rfl, Below.refl _ _⟩
    · rw [decide_eq_false e] at c10
      rw [nx4_no e]
      clear e
      go_enter Tryz.func88, Tryz.ntmps88
      go_wp2_with fail
      go_ret
      exact ⟨rfl, Below.refl _ _⟩
  · clear hT hX c58 c13
    by_cases e : b = 10
    · rw [decide_eq_true e] at c10
      rw [show nx 5 b = 6 by rw [e]; exact nx5_10]
      clear e
      go_enter Tryz.func88, Tryz.ntmps88
      go_wp2_with fail
      go_ret
      exact ⟨rfl, Below.refl _ _⟩
    · rw [decide_eq_false e] at c10
      rw [nx5_no e]
      clear e
      go_enter Tryz.func88, Tryz.ntmps88
      go_wp2_with fail
      go_ret
      exact ⟨rfl, Below.refl _ _⟩

theorem nx_le (q : Nat) (b : UInt8) : nx q b ≤ 6 := by unfold nx; repeat' split <;> try omega
/-- A byte of a text, cut out of it. -/
theorem one_at (s : ByteArray) (k : Nat) (h : k < s.size) : One (s.extract k (k + 1)) s[k] := by
  refine ⟨?_⟩
  have hl : k < s.data.toList.length := by rw [blen']; exact h
  simp only [ByteArray.data_extract, Array.toList_extract, List.extract_eq_take_drop]
  rw [show k + 1 - k = 1 by omega, List.drop_eq_getElem_cons hl]
  rfl
theorem run_drop (q : Nat) (s : ByteArray) (k : Nat) (h : k < s.size) : run q (s.data.toList.drop k) = (if nx q s[k] = 0 then (0, 2) else if nx q s[k] = 6 then (1, 0) else ((run (nx q s[k]) (s.data.toList.drop (k + 1))).1 + 1, (run (nx q s[k]) (s.data.toList.drop (k + 1))).2)) := by
  have hl : k < s.data.toList.length := by rw [blen']; exact h
  rw [List.drop_eq_getElem_cons hl]
  rfl
theorem ret_two {a b c d : Nat} (h : (a, b) = (c, d)) : Ending.returned (.tuple #[.int .i64 (a : Int), .int .i64 (b : Int)]) = .returned (.tuple #[.int .i64 (c : Int), .int .i64 (d : Int)]) := by cases h; rfl

set_option maxHeartbeats 2000000 in
theorem measure_any (s : ByteArray) (w : World) (hs : s.size ≤ 1099511627776) (hsp : Spans w) :
    Calls Tryz.prog 83 #[.string s] w fun e w' => e = .returned (.tuple #[.int .i64 ((run 1 s.data.toList).1 : Nat), .int .i64 ((run 1 s.data.toList).2 : Nat)]) ∧ Below w.heap.size w w' := by
  have HS := Lib.hid hsp
  clear hsp
  go_enter Tryz.func83, Tryz.ntmps83
  go_wp2; go_step3; go_wp2; go_step3; go_wp2
  go_loopw [2, 4] (fun i q wr => ∃ k j : Nat, k ≤ s.size ∧ i = .int .i64 k ∧ q = .int .i64 j ∧ 1 ≤ j ∧ j ≤ 5 ∧ Hid (run 1 s.data.toList = (k + (run j (s.data.toList.drop k)).1, (run j (s.data.toList.drop k)).2)) ∧ Hid (Below w.heap.size w wr)) (fun i _ _ => s.size - (intOf i).toNat)
  case atStart => exact ⟨0, 1, Nat.zero_le _, rfl, rfl, by decide, by decide, Lib.hid (by simp), Lib.hid (Below.refl _ _)⟩
  case round =>
    obtain ⟨k, j, hk, rfl, rfl, hj1, hj5, HR, HB⟩ := hrel
    by_cases hlt : k < s.size
    · have HN := Lib.hid (next_any j ⟨hj1, hj5⟩ (s.extract k (k + 1)) s[k] (one_at s k hlt) wr (HS.out.below HB.out))
      have HD := Lib.hid (run_drop j s k hlt)
      have hn6 := nx_le j s[k]
      have k1 : (0 : Int) ≤ (k : Int) := by omega
      have k2 : (k : Int) ≤ (k : Int) + 1 := by omega
      have k3 : (k : Int) + 1 ≤ (s.size : Int) := by omega
      generalize nx j s[k] = n at HN HD hn6
      by_cases h0 : n = 0
      · subst h0
        go_wp2_with fail
        refine HN.out.mono ?_
        rintro e w1 ⟨rfl, hb1⟩
        go_wp2_with fail
        rw [Exit.noGoto_ret]
        go_ret2
        refine ⟨ret_two ?_, ahead HB.out hb1⟩
        rw [HR.out, HD.out]
        simp
      · by_cases h6 : n = 6
        · subst h6
          go_wp2_with fail
          refine HN.out.mono ?_
          rintro e w1 ⟨rfl, hb1⟩
          go_wp2_with fail
          rw [Exit.noGoto_ret]
          go_ret2
          refine ⟨ret_two ?_, ahead HB.out hb1⟩
          rw [HR.out, HD.out]
          simp
        · have n0 : ((n : Int) == 0) = false := beq_eq_false_iff_ne.2 (by omega)
          have n6 : ((n : Int) == 6) = false := beq_eq_false_iff_ne.2 (by omega)
          go_wp2_with fail
          refine HN.out.mono ?_
          rintro e w1 ⟨rfl, hb1⟩
          go_wp2_with fail
          go_roundw
          case rel =>
            refine ⟨k + 1, n, by omega, by go_num, rfl, by omega, by omega, Lib.hid ?_, Lib.hid (ahead HB.out hb1)⟩
            rw [HR.out, HD.out, if_neg h0, if_neg h6]
            congr 1; omega
          case measure => simp [intOf]; omega
    · obtain rfl : k = s.size := by omega
      have HD := Lib.hid (show run j (s.data.toList.drop s.size) = (0, 4) by rw [List.drop_of_length_le (by rw [blen']; exact Nat.le_refl _)]; cases j <;> rfl)
      rw [HD.out] at HR
      have j0 : ((j : Int) == 0) = false := beq_eq_false_iff_ne.2 (by omega)
      have j6 : ((j : Int) == 6) = false := beq_eq_false_iff_ne.2 (by omega)
      go_wp2_with fail
      go_ret2
      refine ⟨ret_two ?_, HB.out⟩
      rw [HR.out]
      rfl

end Go.Proofs.YtilebfpaibajcaaGreatDoor
