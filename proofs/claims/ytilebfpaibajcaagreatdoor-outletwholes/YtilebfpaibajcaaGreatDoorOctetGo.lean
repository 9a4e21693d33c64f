/- What octet.Token, octet.Text and what they call answer. -/
import Derived.Test.YtilebfpaibajcaaGreatDoorRows
import Derived.Test.YtilebfpaibajcaaGreatDoorMB
import Derived.WalkKit
import Derived.WalkLawsBesides
import Derived.ProofKit
import Derived.OpenShut
import Derived.Handy
import Derived.Outline
import Derived.Lib.Hide
import Derived.Deep.QuietTactic
import Derived.BigQuiet
import Derived.Deep.RegionWith
import Derived.Deep.DeepMust
import Derived.Maps.AppendAt
import Derived.Lib.Bytealg
import Derived.Lib.Walk
import Derived.Shelf.RegionOpenPlain
namespace Go.Proofs.YtilebfpaibajcaaGreatDoor
open Go.ChangeShapes Go.WideShapes Go.ChangeAt Go.RowKit
open Oc
set_option linter.unusedVariables false
set_option maxRecDepth 100000

theorem ret_bool {a b : Bool} (h : a = b) : Ending.returned (.bool a) = .returned (.bool b) := by rw [h]

/-- The table of the letters and digits, where it lies. -/
def Spans (w : World) : Prop := 1 < w.heap.size ∧ w.cell? ⟨1, 0, none⟩ = some (.int .u8 48) ∧ w.cell? ⟨1, 1, none⟩ = some (.int .u8 57) ∧ w.cell? ⟨1, 2, none⟩ = some (.int .u8 65) ∧ w.cell? ⟨1, 3, none⟩ = some (.int .u8 90) ∧ w.cell? ⟨1, 4, none⟩ = some (.int .u8 97) ∧ w.cell? ⟨1, 5, none⟩ = some (.int .u8 122)

theorem span_at (i a b : Int) (h : (i, a, b) ∈ [(0, 48, 57), (1, 65, 90), (2, 97, 122)]) (w : World) : (Instr.index 157 (.agg #[.int .u8 48, .int .u8 57, .int .u8 65, .int .u8 90, .int .u8 97, .int .u8 122]) (.int .i64 i)).run Tryz.prog w = .ok (.agg #[.int .u8 a, .int .u8 b]) w := by
  simp only [List.mem_cons, List.not_mem_nil, or_false, Prod.mk.injEq] at h
  rcases h with ⟨rfl, rfl, rfl⟩ | ⟨rfl, rfl, rfl⟩ | ⟨rfl, rfl, rfl⟩ <;> kernel_rfl

set_option maxHeartbeats 400000 in
theorem letter_any (c : Int) (h0 : 0 ≤ c) (h1 : c ≤ 255) (w : World) (hs : Spans w) :
    Calls Tryz.prog 95 #[.int .u8 c] w fun e w' => e = .returned (.bool (wordB c)) ∧ Below w.heap.size w w' := by
  obtain ⟨hsz, s0, s1, s2, s3, s4, s5⟩ := hs
  have x0 := span_at 0 48 57 (by decide)
  have x1 := span_at 1 65 90 (by decide)
  have x2 := span_at 2 97 122 (by decide)
  go_enter Tryz.func95, Tryz.ntmps95
  go_wp2_with fail
  go_rounds 4
  all_goals
    go_ret
    refine ⟨ret_bool ?_, ?_⟩
    · unfold wordB; simp; omega
    · go_grown

theorem Spans.below {w w' : World} (h : Spans w) (hb : Below w.heap.size w w') : Spans w' := by
  obtain ⟨hsz, s0, s1, s2, s3, s4, s5⟩ := h
  have hz := hb.size
  refine ⟨by omega, ?_, ?_, ?_, ?_, ?_, ?_⟩ <;> (rw [hb.cell (by show (1 : Nat) < w.heap.size; omega)]; assumption)

/-- The text of the other token bytes. -/
abbrev marksText : ByteArray := ⟨#[33, 35, 36, 37, 38, 39, 42, 43, 45, 46, 94, 95, 96, 124, 126]⟩
def markAt (c : Int) : Int := Lib.indexByte marksText.data.toList c.toNat.toUInt8
theorem markAt_ge (c : Int) (h0 : 0 ≤ c) (h1 : c ≤ 255) : decide (0 ≤ markAt c) = markB c := by
  obtain ⟨n, rfl⟩ := Int.eq_ofNat_of_zero_le h0
  have hn : n < 256 := by omega
  have key : ∀ k : Fin 256, decide (0 ≤ markAt (k.val : Int)) = markB (k.val : Int) := by decide +kernel
  exact key ⟨n, hn⟩

set_option maxHeartbeats 400000 in
theorem index_low (c : Int) (h0 : 0 ≤ c) (h1 : c ≤ 255) (w : World) :
    Calls Tryz.prog 99 #[.string marksText, .int .u8 c] w fun e w' => e = .returned (.int .i64 (markAt c)) ∧ w = w' := by
  go_enter Tryz.func99, Tryz.ntmps99
  go_wp2
  rw [run_callFunc_extern Tryz.func110 (by kernel_rfl) (by kernel_rfl) (by kernel_rfl) (e := Extern.BytealgIndexByte.indexByte) (by kernel_rfl), Lib.run_indexByteString]
  simp only [Result.andThen]
  rw [Oper.upon_value]
  go_wp2
  go_ret
  exact ⟨rfl, rfl⟩

set_option maxHeartbeats 400000 in
theorem index_any (c : Int) (h0 : 0 ≤ c) (h1 : c ≤ 255) (w : World) :
    Calls Tryz.prog 96 #[.string marksText, .int .u8 c] w fun e w' => e = .returned (.int .i64 (markAt c)) ∧ w = w' := by
  go_enter Tryz.func96, Tryz.ntmps96
  go_wp2_with (go_at_call 99; refine (index_low _ h0 h1 _).mono ?_; rintro e w' ⟨rfl, rfl⟩)
  go_ret
  exact ⟨rfl, rfl⟩

set_option maxHeartbeats 400000 in
theorem tok_any (c : Int) (h0 : 0 ≤ c) (h1 : c ≤ 255) (w : World) (hs : Spans w) :
    Calls Tryz.prog 94 #[.int .u8 c] w fun e w' => e = .returned (.bool (tokB c)) ∧ Below w.heap.size w w' := by
  have hm := markAt_ge c h0 h1
  cases hw : wordB c
  · go_enter Tryz.func94, Tryz.ntmps94
    go_wp2_with (first
      | (go_at_call 95; refine (letter_any _ h0 h1 _ hs).mono ?_; rintro e w' ⟨rfl, hb⟩)
      | (go_at_call 96; refine (index_any _ h0 h1 _).mono ?_; rintro e w' ⟨rfl, rfl⟩))
    go_ret
    exact ⟨ret_bool (by unfold tokB; rw [hw, ← hm]; simp), hb⟩
  · go_enter Tryz.func94, Tryz.ntmps94
    go_wp2_with (first
      | (go_at_call 95; refine (letter_any _ h0 h1 _ hs).mono ?_; rintro e w' ⟨rfl, hb⟩))
    go_ret
    exact ⟨ret_bool (by unfold tokB; rw [hw]; simp), hb⟩

set_option maxHeartbeats 400000 in
theorem txt_any (c : Int) (h0 : 0 ≤ c) (h1 : c ≤ 255) (w : World) :
    Calls Tryz.prog 87 #[.int .u8 c] w fun e w' => e = .returned (.bool (txtB c)) ∧ w = w' := by
  go_enter Tryz.func87, Tryz.ntmps87
  go_wp2_with fail
  all_goals
    go_ret
    exact ⟨ret_bool (by unfold txtB; rw [Bool.eq_iff_iff]; simp; omega), rfl⟩

theorem every_stop {p : Int → Bool} {s : ByteArray} {k : Nat} (h : k < s.size) (b : p (s[k].toNat : Int) = false) : every p s.data.toList = false := by
  unfold every; rw [List.all_eq_false]
  exact ⟨s[k], by simp [ByteArray.getElem_eq_getElem_data], by simpa using b⟩
theorem every_all {p : Int → Bool} {s : ByteArray} {k : Nat} (h : ¬ k < s.size) (a : ∀ c ∈ s.data.toList.take k, p (c.toNat : Int) = true) : every p s.data.toList = true := by
  rw [List.take_of_length_le (by simp; exact Nat.le_of_not_lt h)] at a
  unfold every; rw [List.all_eq_true]; exact a
theorem byte_lo (c : UInt8) : (0 : Int) ≤ (c.toNat : Int) := by omega
theorem byte_hi (c : UInt8) : (c.toNat : Int) ≤ 255 := by have := c.toNat_lt; omega
theorem btake (s : ByteArray) (k : Nat) (h : k < s.size) : s.data.toList.take (k + 1) = s.data.toList.take k ++ [s[k]] := by
  rw [List.take_succ_eq_append_getElem (by simpa using h)]; rfl
theorem bmem_succ {s : ByteArray} {k : Nat} (h : k < s.size) {P : UInt8 → Prop} (a : ∀ c ∈ s.data.toList.take k, P c) (b : P s[k]) : ∀ c ∈ s.data.toList.take (k + 1), P c := by
  intro c hc; rw [btake s k h, List.mem_append] at hc
  rcases hc with hc | hc
  · exact a c hc
  · simp at hc; subst hc; exact b

set_option maxHeartbeats 400000 in
theorem all_any (p : Int → Bool) (f : Nat) (s : ByteArray) (w : World) (hs : s.size ≤ 1099511627776)
    (he : ∀ args w, (callFunc f args).run Tryz.prog w = .ok (.enter f args) w)
    (hf : ∀ (c : Int) (w' : World), 0 ≤ c → c ≤ 255 → Below w.heap.size w w' → Calls Tryz.prog f #[.int .u8 c] w' fun e w'' => e = .returned (.bool (p c)) ∧ Below w'.heap.size w' w'') :
    Calls Tryz.prog 86 #[.string s, .func (.func f) #[] #[]] w fun e w' => e = .returned (.bool (every p s.data.toList)) ∧ Below w.heap.size w w' := by
  go_enter Tryz.func86, Tryz.ntmps86
  go_wp2_with fail
  go_loopw [8] (fun i wr => ∃ k : Nat, k ≤ s.size ∧ i = .int .i64 k ∧ Hid (∀ c ∈ s.data.toList.take k, p (c.toNat : Int) = true) ∧ Below w.heap.size w wr) (fun i _ => s.size - (intOf i).toNat)
  case atStart => exact ⟨0, Nat.zero_le _, rfl, Lib.hid (by simp), Below.refl _ _⟩
  case round =>
    obtain ⟨k, hk, rfl, ha, hbw⟩ := hrel
    by_cases hlt : k < s.size
    · have hc := hf (s[k].toNat : Int) _ (byte_lo s[k]) (byte_hi s[k]) hbw
      cases hp : p (s[k].toNat : Int)
      · go_wp2_with (go_at_fn f; refine hc.mono ?_; rintro e w' ⟨rfl, hb⟩)
        go_ret
        exact ⟨ret_bool (by rw [every_stop hlt hp]), hbw.trans (hb.mono hbw.size)⟩
      · go_wp2_with (go_at_fn f; refine hc.mono ?_; rintro e w' ⟨rfl, hb⟩)
        go_roundw
        case rel => exact ⟨k + 1, by omega, by go_num, Lib.hid (bmem_succ hlt ha.out hp), hbw.trans (hb.mono hbw.size)⟩
        case measure => simp [intOf]; omega
    · go_wp2
      go_ret
      exact ⟨ret_bool (by rw [every_all hlt ha.out]), hbw⟩

end Go.Proofs.YtilebfpaibajcaaGreatDoor
