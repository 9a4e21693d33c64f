/- An encoder of a size: made, asked, ended. -/
import Derived.Test.YtjolpnjmelifbaaDoorEncFix
namespace Go.Proofs.YtjolpnjmelifbaaDoor
open Go.ChangeShapes Go.WideShapes Go.ChangeAt Go.RowKit
open Oc Fl Bk Bd
set_option linter.unusedVariables false
set_option maxRecDepth 100000

set_option maxHeartbeats 1000000 in
theorem fixLeft_any (R K size d : Nat) (w : World) (h : FixAt R K size d w) :
    Calls Tryd.prog 21 #[.pointer (some ⟨R, 0, none⟩)] w fun e w' => e = .returned (.int .u64 ((size - d : Nat) : Int)) ∧ Below w.heap.size w w' := by
  have HP := Lib.hid (fleft_any R K size d w h)
  have hR := h.enc
  have c0 : w.cell? ⟨R, 0, none⟩ = some (.iface 65 (.pointer (some ⟨K, 0, none⟩))) := by simp [World.cell?, hR]
  clear h hR
  generalize size - d = s at *
  go_enter Tryd.func21, Tryd.ntmps21
  go_wp2_with fail
  refine HP.out.mono ?_
  rintro e w1 ⟨rfl, m, rfl⟩
  have HB := Lib.hid (drewN_below8 w m)
  go_wp2_with fail
  go_ret
  exact ⟨rfl, HB.out⟩

theorem nothing_nil (w : World) : Calls Tryd.prog 103 #[.slice none 0 0] w fun e w' => e = .returned (.tuple #[.slice none 0 0, .int .i64 0]) ∧ Below w.heap.size w w' := by
  go_enter Tryd.func103, Tryd.ntmps103
  go_wp2_with fail
  go_loopw [8] (fun i wr => i = .int .i64 0 ∧ wr = w) (fun i _ => 1)
  case atStart => exact ⟨rfl, rfl⟩
  case round =>
    obtain ⟨rfl, rfl⟩ := hrel
    go_wp2_with fail
    go_ret2
    exact ⟨rfl, Below.refl _ _⟩

/-- What the end of it answers where no trailer is said. -/
def fixEndE (size d : Nat) : Nat := if d < size then 4 else 0
set_option maxHeartbeats 1000000 in
theorem fend_any (R K size d : Nat) (w : World) (h : FixAt R K size d w) :
    Calls Tryd.prog 99 #[.pointer (some ⟨K, 0, none⟩), .slice none 0 0] w fun e w' => e = .returned (.tuple #[.slice none 0 0, .int .i64 (fixEndE size d : Int)]) ∧ Below w.heap.size w w' := by
  have HP := Lib.hid (fleft_any R K size d w h)
  have hle := h.le
  have hbg := h.big
  clear h
  by_cases hd : d < size
  · rw [show fixEndE size d = 4 from if_pos hd]
    have h0 : (0 : Int) < ((size - d : Nat) : Int) := by omega
    generalize size - d = s at *
    go_enter Tryd.func99, Tryd.ntmps99
    go_wp2_with fail
    refine HP.out.mono ?_
    rintro e w1 ⟨rfl, m, rfl⟩
    have HB := Lib.hid (drewN_below8 w m)
    go_wp2_with fail
    go_ret2
    exact ⟨rfl, HB.out⟩
  · rw [show fixEndE size d = 0 from if_neg hd]
    rw [show size - d = 0 from by omega] at HP
    go_enter Tryd.func99, Tryd.ntmps99
    go_wp2_with fail
    refine HP.out.mono ?_
    rintro e w1 ⟨rfl, m, rfl⟩
    have HN := Lib.hid (nothing_nil (w.drewN m))
    have HB := Lib.hid (drewN_below8 w m)
    go_wp2_with fail
    refine HN.out.mono ?_
    rintro e w2 ⟨rfl, hb⟩
    have HC := Lib.hid (ahead HB.out hb)
    clear hb
    go_wp2_with fail
    go_ret2
    exact ⟨rfl, HC.out⟩

set_option maxHeartbeats 1000000 in
theorem fixEnd_any (R K size d : Nat) (w : World) (h : FixAt R K size d w) :
    Calls Tryd.prog 19 #[.pointer (some ⟨R, 0, none⟩), .slice none 0 0] w fun e w' => e = .returned (.tuple #[.slice none 0 0, .int .i64 (fixEndE size d : Int)]) ∧ ∀ B, B ≤ w.heap.size → B ≤ R → Below B w w' := by
  have HP := Lib.hid (fend_any R K size d w h)
  have hR := h.enc
  have c0 : w.cell? ⟨R, 0, none⟩ = some (.iface 65 (.pointer (some ⟨K, 0, none⟩))) := by simp [World.cell?, hR]
  have c1 : w.cell? ⟨R, 1, none⟩ = some (.bool false) := by simp [World.cell?, hR]
  have HR := Lib.hid hR
  clear h hR
  have key : ∀ w1 : World, Below w.heap.size w w1 → ∀ v, ∀ B, B ≤ w.heap.size → B ≤ R → Below B w (w1.setCell ⟨R, 1, none⟩ v) := fun w1 hb v B h1 h2 => (hb.mono h1).setCell (p := ⟨R, 1, none⟩) h2 _
  have HK := Lib.hid key
  clear key
  have g2 : ∀ w1 : World, Below w.heap.size w w1 → w1.cell? ⟨R, 1, none⟩ = some (.bool false) ∧ w1.frozen? ⟨R, 1, none⟩ = false := fun w1 hb => by
    have := (hb.block R (Array.getElem?_eq_some_iff.1 HR.out).1).trans HR.out
    simp [World.cell?, World.frozen?, this]
  have HG := Lib.hid g2
  clear g2
  have he : fixEndE size d = 4 ∨ fixEndE size d = 0 := by unfold fixEndE; split <;> simp
  rcases he with he | he
  · rw [he] at HP ⊢
    clear he
    go_enter Tryd.func19, Tryd.ntmps19
    go_wp2_with fail
    refine HP.out.mono ?_
    rintro e w1 ⟨rfl, hb⟩
    obtain ⟨q0, q1⟩ := HG.out w1 hb
    have HQ := Lib.hid (HK.out w1 hb)
    clear hb HP
    go_wp2_with fail
    go_ret2
    exact ⟨rfl, HQ.out _⟩
  · rw [he] at HP ⊢
    clear he
    go_enter Tryd.func19, Tryd.ntmps19
    go_wp2_with fail
    refine HP.out.mono ?_
    rintro e w1 ⟨rfl, hb⟩
    obtain ⟨q0, q1⟩ := HG.out w1 hb
    have HQ := Lib.hid (HK.out w1 hb)
    clear hb HP
    go_wp2_with fail
    go_ret2
    exact ⟨rfl, HQ.out _⟩

set_option maxHeartbeats 1000000 in
theorem fixNew_any (size : Nat) (w : World) (h : size ≤ 4611686018427387903) :
    Calls Tryd.prog 15 #[.agg #[.int .i64 1, .int .u64 (size : Int)]] w fun e w' => ∃ R K, e = .returned (.tuple #[.pointer (some ⟨R, 0, none⟩), .int .i64 0]) ∧ FixAt R K size 0 w' ∧ Below w.heap.size w w' ∧ w.heap.size ≤ R ∧ w.heap.size ≤ K := by
  obtain ⟨w1, hw1⟩ : ∃ w1, w.alloc (.cells #[.int .i64 1, .int .u64 (size : Int)] 37) = w1 := ⟨_, rfl⟩
  obtain ⟨w2, hw2⟩ : ∃ w2, w1.alloc (.cells #[.int .i64 0, .int .u64 (size : Int)] 69) = w2 := ⟨_, rfl⟩
  obtain ⟨w3, hw3⟩ : ∃ w3, w2.alloc (.cells #[.iface 65 (.pointer (some ⟨w1.heap.size, 0, none⟩)), .bool false] 73) = w3 := ⟨_, rfl⟩
  have b1 : Below w.heap.size w w1 := by rw [← hw1]; exact below_box _ _
  have b2 : Below w1.heap.size w1 w2 := by rw [← hw2]; exact below_box _ _
  have b3 : Below w2.heap.size w2 w3 := by rw [← hw3]; exact below_box _ _
  have z1 : w1.heap.size = w.heap.size + 1 := by rw [← hw1]; simp
  have z2 : w2.heap.size = w1.heap.size + 1 := by rw [← hw2]; simp
  have hQ : FixAt w2.heap.size w1.heap.size size 0 w3 ∧ Below w.heap.size w w3 ∧ w.heap.size ≤ w2.heap.size ∧ w.heap.size ≤ w1.heap.size := by
    refine ⟨⟨?_, ?_, by omega, by omega, h⟩, ahead (ahead b1 b2) b3, by omega, by omega⟩
    · rw [← hw3]; exact World.alloc_heap_new w2 _
    · rw [b3.block _ (by omega), ← hw2]; exact World.alloc_heap_new w1 _
  rw [z2, z1] at hQ
  rw [z1] at hw3
  rw [← hw3, ← hw2, ← hw1] at hQ
  have HQ := Lib.hid hQ
  have hs : (size : Int) ≤ 4611686018427387903 := by omega
  clear b1 b2 b3 z1 z2 hQ hw1 hw2 hw3
  go_enter Tryd.func15, Tryd.ntmps15
  go_wp2_with fail
  go_ret2
  exact ⟨w.heap.size + 1 + 1, w.heap.size + 1, rfl, HQ.out⟩

end Go.Proofs.YtjolpnjmelifbaaDoor
