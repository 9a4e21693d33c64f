/- A credit in memory; the credit's functions. -/
import Derived.Test.YtabikfckmjfllaaByteMem
import Derived.WalkKit
import Derived.WalkLawsBesides
import Derived.ProofKit
import Derived.OpenShut
import Derived.Handy
import Derived.Outline
import Derived.Lib.Hide
import Derived.Deep.QuietTactic
import Derived.BigQuiet
import Derived.Deep.RegionWith
import Derived.Deep.RegionHeld3
import Derived.Deep.RegionLaw
import Derived.Deep.DeepMust
import Derived.Lib.Walk
namespace Go.Proofs.Ytabikfckmjfllaa
open Go.ChangeShapes Go.WideShapes Go.ChangeAt Go.RowKit
set_option linter.unusedVariables false

/-- The credit at block R: o units open, t taken, h held, g granted. -/
structure CredAt (W : World) (R o t h g : Nat) : Prop where
  blk : W.heap[R]? = some (.cells #[.int .i64 (o : Int), .int .i64 (t : Int), .int .i64 (h : Int), .int .i64 (g : Int)] 48 (0, 0))
  sum : o + t + h ≤ 65536
  big : g ≤ 4611686018427387904
theorem CredAt.c0 {W : World} {R o t h g : Nat} (H : CredAt W R o t h g) : W.cell? ⟨R, 0, none⟩ = some (.int .i64 (o : Int)) := by simp [World.cell?, H.blk]
theorem CredAt.c1 {W : World} {R o t h g : Nat} (H : CredAt W R o t h g) : W.cell? ⟨R, 1, none⟩ = some (.int .i64 (t : Int)) := by simp [World.cell?, H.blk]
theorem CredAt.c2 {W : World} {R o t h g : Nat} (H : CredAt W R o t h g) : W.cell? ⟨R, 2, none⟩ = some (.int .i64 (h : Int)) := by simp [World.cell?, H.blk]
theorem CredAt.c3 {W : World} {R o t h g : Nat} (H : CredAt W R o t h g) : W.cell? ⟨R, 3, none⟩ = some (.int .i64 (g : Int)) := by simp [World.cell?, H.blk]
theorem CredAt.f {W : World} {R o t h g : Nat} (H : CredAt W R o t h g) (i : Nat) : W.frozen? ⟨R, i, none⟩ = false := by simp [World.frozen?, H.blk]
theorem CredAt.kept {W W' : World} {R o t h g : Nat} (H : CredAt W R o t h g) (h1 : W'.heap[R]? = W.heap[R]?) : CredAt W' R o t h g := ⟨h1.trans H.blk, H.sum, H.big⟩
theorem CredAt.lt {W : World} {R o t h g : Nat} (H : CredAt W R o t h g) : R < W.heap.size := (Array.getElem?_eq_some_iff.1 H.blk).1
theorem CredAt.below {W W' : World} {R o t h g : Nat} (H : CredAt W R o t h g) (hb : Below W.heap.size W W') : CredAt W' R o t h g := H.kept (hb.block _ H.lt)
theorem CredAt.drewN {W : World} {R o t h g : Nat} (H : CredAt W R o t h g) (m : Nat) : CredAt (W.drewN m) R o t h g := H.kept rfl

/-- All but the block R lies as it lay. -/
structure Sole (R : Nat) (A B : World) : Prop where
  os : B.os = A.os
  tape : B.tape = A.tape
  output : B.output = A.output
  size : A.heap.size ≤ B.heap.size
  block : ∀ k, k < A.heap.size → k ≠ R → B.heap[k]? = A.heap[k]?
theorem Sole.refl (R : Nat) (A : World) : Sole R A A := ⟨rfl, rfl, rfl, Nat.le_refl _, fun _ _ _ => rfl⟩
theorem Sole.below {R n : Nat} {w A B : World} (h : Sole R A B) (hb : Below n w A) (hR : n ≤ R) (hs : n ≤ A.heap.size) : Below n w B :=
  hb.trans ⟨h.os, h.tape, h.output, h.size, fun k hk => h.block k (by omega) (by omega)⟩
theorem Sole.trans {R : Nat} {A B C : World} (h : Sole R A B) (g : Sole R B C) : Sole R A C :=
  ⟨g.os.trans h.os, g.tape.trans h.tape, g.output.trans h.output, Nat.le_trans h.size g.size, fun k hk h0 => (g.block k (Nat.lt_of_lt_of_le hk h.size) h0).trans (h.block k hk h0)⟩
theorem Sole.of_below {R : Nat} {A B : World} (h : Below A.heap.size A B) : Sole R A B := ⟨h.os, h.tape, h.output, h.size, fun k hk _ => h.block k hk⟩
theorem Sole.set {R : Nat} {A B : World} (h : Sole R A B) (i : Nat) (v : Value) : Sole R A (B.setCell ⟨R, i, none⟩ v) := h.trans ⟨rfl, rfl, rfl, by simp [World.setCell], fun k _ h => Below.heap_setCell _ _ _ _ h⟩
theorem Sole.drew {R : Nat} {A B : World} (h : Sole R A B) : Sole R A B.drew := ⟨h.os, h.tape, h.output, h.size, h.block⟩
theorem Sole.drewN {R : Nat} {A B : World} (h : Sole R A B) (m : Nat) : Sole R A (B.drewN m) := ⟨h.os, h.tape, h.output, h.size, h.block⟩

theorem open_any (w : World) (R o t h g : Nat) (H : CredAt w R o t h g) :
    Calls Try.prog 11 #[.pointer (some ⟨R, 0, none⟩)] w fun e w' => e = .returned (.int .i64 (o : Int)) ∧ w = w' := by
  have h0 := H.c0
  go_enter Try.func11, Try.ntmps11
  go_wp2_with fail
  go_ret
  exact ⟨rfl, rfl⟩
theorem taken_any (w : World) (R o t h g : Nat) (H : CredAt w R o t h g) :
    Calls Try.prog 12 #[.pointer (some ⟨R, 0, none⟩)] w fun e w' => e = .returned (.int .i64 (t : Int)) ∧ w = w' := by
  have h0 := H.c1
  go_enter Try.func12, Try.ntmps12
  go_wp2_with fail
  go_ret
  exact ⟨rfl, rfl⟩
theorem held_any (w : World) (R o t h g : Nat) (H : CredAt w R o t h g) :
    Calls Try.prog 13 #[.pointer (some ⟨R, 0, none⟩)] w fun e w' => e = .returned (.int .i64 (h : Int)) ∧ w = w' := by
  have h0 := H.c2
  go_enter Try.func13, Try.ntmps13
  go_wp2_with fail
  go_ret
  exact ⟨rfl, rfl⟩
theorem grants_any (w : World) (R o t h g : Nat) (H : CredAt w R o t h g) :
    Calls Try.prog 14 #[.pointer (some ⟨R, 0, none⟩)] w fun e w' => e = .returned (.int .i64 (g : Int)) ∧ w = w' := by
  have h0 := H.c3
  go_enter Try.func14, Try.ntmps14
  go_wp2_with fail
  go_ret
  exact ⟨rfl, rfl⟩

theorem cred_new_bad (w : World) (q : Int) (hq : q < 1 ∨ 65536 < q) :
    Calls Try.prog 8 #[.int .i64 q] w fun e w' => e = .returned (.tuple #[.pointer none, .int .i64 1]) ∧ w = w' := by
  by_cases h1 : q < 1
  · go_enter Try.func8, Try.ntmps8
    go_wp2_with fail
    go_ret2
    exact ⟨rfl, rfl⟩
  · have h2 : 65536 < q := by omega
    have h3 : 1 ≤ q := by omega
    clear hq
    go_enter Try.func8, Try.ntmps8
    go_wp2_with fail
    go_ret2
    exact ⟨rfl, rfl⟩
theorem cred_new_any (w : World) (N : Nat) (h1 : 1 ≤ N) (h2 : N ≤ 65536) :
    Calls Try.prog 8 #[.int .i64 (N : Int)] w fun e w' => ∃ R, e = .returned (.tuple #[.pointer (some ⟨R, 0, none⟩), .int .i64 0]) ∧ CredAt w' R N 0 0 0 ∧ w.heap.size ≤ R ∧ Below w.heap.size w w' := by
  have g1 : (1 : Int) ≤ (N : Int) := by omega
  have g2 : (N : Int) ≤ 65536 := by omega
  go_enter Try.func8, Try.ntmps8
  go_wp2_with fail
  go_ret2
  exact ⟨w.heap.size, rfl, ⟨World.alloc_heap_new w _, by omega, by omega⟩, Nat.le_refl _, (Below.refl _ w).alloc (Nat.le_refl _) _⟩

theorem move_neg (w : World) (R : Nat) (q i j : Int) (hq : q < 0) :
    Calls Try.prog 19 #[.pointer (some ⟨R, 0, none⟩), .int .i64 q, .int .i64 i, .int .i64 j] w fun e w' => e = .returned (.int .i64 1) ∧ w = w' := by
  go_enter Try.func19, Try.ntmps19
  go_wp2_with fail
  go_ret
  exact ⟨rfl, rfl⟩
theorem move_more_t (w : World) (R o t h g : Nat) (H : CredAt w R o t h g) (q j : Int) (hq : (t : Int) < q) :
    Calls Try.prog 19 #[.pointer (some ⟨R, 0, none⟩), .int .i64 q, .int .i64 1, .int .i64 j] w fun e w' => e = .returned (.int .i64 7) ∧ w = w' := by
  have h0 := H.c1
  have h1 : ¬ q < 0 := by omega
  go_enter Try.func19, Try.ntmps19
  go_wp2_with fail
  go_ret
  exact ⟨rfl, rfl⟩
theorem move_more_h (w : World) (R o t h g : Nat) (H : CredAt w R o t h g) (q j : Int) (hq : (h : Int) < q) :
    Calls Try.prog 19 #[.pointer (some ⟨R, 0, none⟩), .int .i64 q, .int .i64 2, .int .i64 j] w fun e w' => e = .returned (.int .i64 7) ∧ w = w' := by
  have h0 := H.c2
  have h1 : ¬ q < 0 := by omega
  go_enter Try.func19, Try.ntmps19
  go_wp2_with fail
  go_ret
  exact ⟨rfl, rfl⟩
theorem move_ot (w : World) (R o t h g q : Nat) (H : CredAt w R o t h g) (hq : q ≤ o) :
    Calls Try.prog 19 #[.pointer (some ⟨R, 0, none⟩), .int .i64 (q : Int), .int .i64 0, .int .i64 1] w fun e w' => e = .returned (.int .i64 0) ∧ CredAt w' R (o - q) (t + q) h g ∧ Sole R w w' := by
  have h0 := H.c0
  have h1 := H.c1
  have hf := H.f
  have hs := H.sum
  have HB := Lib.hid H.blk
  have hg := H.big
  have hw1 : IntKind.i64.wrap ((o : Int) - (q : Int)) = (o : Int) - (q : Int) := IntWalk.i64_in _ (by omega)
  have hw2 : IntKind.i64.wrap ((t : Int) + (q : Int)) = (t : Int) + (q : Int) := IntWalk.i64_in _ (by omega)
  have h5 : ¬ ((o : Int) < (q : Int)) := by omega
  have e1 : (o : Int) - (q : Int) = ((o - q : Nat) : Int) := by omega
  have E1 := Lib.hid e1
  clear H e1
  go_enter Try.func19, Try.ntmps19
  go_wp2_with fail
  go_region_with fail
  go_wp2_with fail
  go_region_with fail
  go_wp2_with fail
  go_ret
  refine ⟨rfl, ⟨?_, by omega, hg⟩, ((((Sole.refl R w).set _ _).set _ _).drew).drew⟩
  refine (show _ = _ from heap_set _ (heap_set _ HB.out)).trans ?_
  rw [E1.out]
  rfl
theorem move_th (w : World) (R o t h g q : Nat) (H : CredAt w R o t h g) (hq : q ≤ t) :
    Calls Try.prog 19 #[.pointer (some ⟨R, 0, none⟩), .int .i64 (q : Int), .int .i64 1, .int .i64 2] w fun e w' => e = .returned (.int .i64 0) ∧ CredAt w' R o (t - q) (h + q) g ∧ Sole R w w' := by
  have h0 := H.c1
  have h1 := H.c2
  have hf := H.f
  have hs := H.sum
  have HB := Lib.hid H.blk
  have hg := H.big
  have hw1 : IntKind.i64.wrap ((t : Int) - (q : Int)) = (t : Int) - (q : Int) := IntWalk.i64_in _ (by omega)
  have hw2 : IntKind.i64.wrap ((h : Int) + (q : Int)) = (h : Int) + (q : Int) := IntWalk.i64_in _ (by omega)
  have h5 : ¬ ((t : Int) < (q : Int)) := by omega
  have e1 : (t : Int) - (q : Int) = ((t - q : Nat) : Int) := by omega
  have E1 := Lib.hid e1
  clear H e1
  go_enter Try.func19, Try.ntmps19
  go_wp2_with fail
  go_region_with fail
  go_wp2_with fail
  go_region_with fail
  go_wp2_with fail
  go_ret
  refine ⟨rfl, ⟨?_, by omega, hg⟩, ((((Sole.refl R w).set _ _).set _ _).drew).drew⟩
  refine (show _ = _ from heap_set _ (heap_set _ HB.out)).trans ?_
  rw [E1.out]
  rfl
theorem move_to (w : World) (R o t h g q : Nat) (H : CredAt w R o t h g) (hq : q ≤ t) :
    Calls Try.prog 19 #[.pointer (some ⟨R, 0, none⟩), .int .i64 (q : Int), .int .i64 1, .int .i64 0] w fun e w' => e = .returned (.int .i64 0) ∧ CredAt w' R (o + q) (t - q) h g ∧ Sole R w w' := by
  have h0 := H.c1
  have h1 := H.c0
  have hf := H.f
  have hs := H.sum
  have HB := Lib.hid H.blk
  have hg := H.big
  have hw1 : IntKind.i64.wrap ((t : Int) - (q : Int)) = (t : Int) - (q : Int) := IntWalk.i64_in _ (by omega)
  have hw2 : IntKind.i64.wrap ((o : Int) + (q : Int)) = (o : Int) + (q : Int) := IntWalk.i64_in _ (by omega)
  have h5 : ¬ ((t : Int) < (q : Int)) := by omega
  have e1 : (t : Int) - (q : Int) = ((t - q : Nat) : Int) := by omega
  have E1 := Lib.hid e1
  clear H e1
  go_enter Try.func19, Try.ntmps19
  go_wp2_with fail
  go_region_with fail
  go_wp2_with fail
  go_region_with fail
  go_wp2_with fail
  go_ret
  refine ⟨rfl, ⟨?_, by omega, hg⟩, ((((Sole.refl R w).set _ _).set _ _).drew).drew⟩
  refine (show _ = _ from heap_set _ (heap_set _ HB.out)).trans ?_
  rw [E1.out]
  rfl
theorem move_ho (w : World) (R o t h g q : Nat) (H : CredAt w R o t h g) (hq : q ≤ h) :
    Calls Try.prog 19 #[.pointer (some ⟨R, 0, none⟩), .int .i64 (q : Int), .int .i64 2, .int .i64 0] w fun e w' => e = .returned (.int .i64 0) ∧ CredAt w' R (o + q) t (h - q) g ∧ Sole R w w' := by
  have h0 := H.c2
  have h1 := H.c0
  have hf := H.f
  have hs := H.sum
  have HB := Lib.hid H.blk
  have hg := H.big
  have hw1 : IntKind.i64.wrap ((h : Int) - (q : Int)) = (h : Int) - (q : Int) := IntWalk.i64_in _ (by omega)
  have hw2 : IntKind.i64.wrap ((o : Int) + (q : Int)) = (o : Int) + (q : Int) := IntWalk.i64_in _ (by omega)
  have h5 : ¬ ((h : Int) < (q : Int)) := by omega
  have e1 : (h : Int) - (q : Int) = ((h - q : Nat) : Int) := by omega
  have E1 := Lib.hid e1
  clear H e1
  go_enter Try.func19, Try.ntmps19
  go_wp2_with fail
  go_region_with fail
  go_wp2_with fail
  go_region_with fail
  go_wp2_with fail
  go_ret
  refine ⟨rfl, ⟨?_, by omega, hg⟩, ((((Sole.refl R w).set _ _).set _ _).drew).drew⟩
  refine (show _ = _ from heap_set _ (heap_set _ HB.out)).trans ?_
  rw [E1.out]
  rfl

theorem take_any (w : World) (R o t h g : Nat) (q : Int) (H : CredAt w R o t h g) :
    Calls Try.prog 15 #[.pointer (some ⟨R, 0, none⟩), .int .i64 q] w fun e w' => e = .returned (.int .i64 (min q.toNat o : Nat)) ∧ CredAt w' R (o - min q.toNat o) (t + min q.toNat o) h g ∧ Sole R w w' := by
  have hs := H.sum
  have ho := open_any w R o t h g H
  obtain ⟨u, hu⟩ : ∃ u, min q.toNat o = u := ⟨_, rfl⟩
  have hm := move_ot w R o t h g u H (by omega)
  rw [hu]
  have hw : min (max q 0) (o : Int) = (u : Int) := by omega
  have HM := Lib.hid hm
  have HO := Lib.hid ho
  clear hm ho hu H
  go_enter Try.func15, Try.ntmps15
  go_wp2_with (first
    | (go_at_call 11; refine HO.out.mono ?_; rintro e w' ⟨rfl, rfl⟩)
    | (go_at_call 19; refine HM.out.mono ?_; rintro e w' ⟨rfl, hc, hso⟩))
  go_ret
  exact ⟨rfl, hc, hso⟩
/-- What a move answers, where k units are there. -/
def mvE (q : Int) (k : Nat) : Nat := if q < 0 then 1 else if (k : Int) < q then 7 else 0
/-- How many units a move moves. -/
def mvN (q : Int) (k : Nat) : Nat := if (k : Int) < q then 0 else q.toNat
theorem mvN_le (q : Int) (k : Nat) : mvN q k ≤ k := by unfold mvN; split <;> omega
theorem use_any (w : World) (R o t h g : Nat) (q : Int) (H : CredAt w R o t h g) :
    Calls Try.prog 16 #[.pointer (some ⟨R, 0, none⟩), .int .i64 q] w fun e w' => e = .returned (.int .i64 (mvE q t : Nat)) ∧ CredAt w' R o (t - mvN q t) (h + mvN q t) g ∧ Sole R w w' := by
  by_cases hq : q < 0
  · have hm := fun i j => move_neg w R q i j hq
    have e1 : mvE q t = 1 := by simp [mvE, hq]
    have e2 : mvN q t = 0 := by unfold mvN; split <;> omega
    rw [e1, e2]
    have HM := Lib.hid hm
    have HH := Lib.hid H
    clear H hm e1 e2
    go_enter Try.func16, Try.ntmps16
    go_wp2_with (go_at_call 19; refine (HM.out _ _).mono ?_; rintro e w' ⟨rfl, rfl⟩)
    go_ret
    exact ⟨rfl, HH.out, Sole.refl _ _⟩
  · by_cases hk : (t : Int) < q
    · have hm := fun j => move_more_t w R o t h g H q j hk
      have e1 : mvE q t = 7 := by simp [mvE, hq, hk]
      have e2 : mvN q t = 0 := by simp [mvN, hk]
      rw [e1, e2]
      have HM := Lib.hid hm
      have HH := Lib.hid H
      clear H hm e1 e2
      go_enter Try.func16, Try.ntmps16
      go_wp2_with (go_at_call 19; refine (HM.out _).mono ?_; rintro e w' ⟨rfl, rfl⟩)
      go_ret
      exact ⟨rfl, HH.out, Sole.refl _ _⟩
    · obtain ⟨n, rfl⟩ : ∃ n : Nat, q = (n : Int) := ⟨q.toNat, by omega⟩
      have hm := move_th w R o t h g n H (by omega)
      have e1 : mvE (n : Int) t = 0 := by simp [mvE, hk]
      have e2 : mvN (n : Int) t = n := by simp [mvN]; omega
      rw [e1, e2]
      have HM := Lib.hid hm
      clear H hm e1 e2
      go_enter Try.func16, Try.ntmps16
      go_wp2_with (go_at_call 19; refine HM.out.mono ?_; rintro e w' ⟨rfl, hc, hso⟩)
      go_ret
      exact ⟨rfl, hc, hso⟩
theorem return_any (w : World) (R o t h g : Nat) (q : Int) (H : CredAt w R o t h g) :
    Calls Try.prog 18 #[.pointer (some ⟨R, 0, none⟩), .int .i64 q] w fun e w' => e = .returned (.int .i64 (mvE q t : Nat)) ∧ CredAt w' R (o + mvN q t) (t - mvN q t) h g ∧ Sole R w w' := by
  by_cases hq : q < 0
  · have hm := fun i j => move_neg w R q i j hq
    have e1 : mvE q t = 1 := by simp [mvE, hq]
    have e2 : mvN q t = 0 := by unfold mvN; split <;> omega
    rw [e1, e2]
    have HM := Lib.hid hm
    have HH := Lib.hid H
    clear H hm e1 e2
    go_enter Try.func18, Try.ntmps18
    go_wp2_with (go_at_call 19; refine (HM.out _ _).mono ?_; rintro e w' ⟨rfl, rfl⟩)
    go_ret
    exact ⟨rfl, HH.out, Sole.refl _ _⟩
  · by_cases hk : (t : Int) < q
    · have hm := fun j => move_more_t w R o t h g H q j hk
      have e1 : mvE q t = 7 := by simp [mvE, hq, hk]
      have e2 : mvN q t = 0 := by simp [mvN, hk]
      rw [e1, e2]
      have HM := Lib.hid hm
      have HH := Lib.hid H
      clear H hm e1 e2
      go_enter Try.func18, Try.ntmps18
      go_wp2_with (go_at_call 19; refine (HM.out _).mono ?_; rintro e w' ⟨rfl, rfl⟩)
      go_ret
      exact ⟨rfl, HH.out, Sole.refl _ _⟩
    · obtain ⟨n, rfl⟩ : ∃ n : Nat, q = (n : Int) := ⟨q.toNat, by omega⟩
      have hm := move_to w R o t h g n H (by omega)
      have e1 : mvE (n : Int) t = 0 := by simp [mvE, hk]
      have e2 : mvN (n : Int) t = n := by simp [mvN]; omega
      rw [e1, e2]
      have HM := Lib.hid hm
      clear H hm e1 e2
      go_enter Try.func18, Try.ntmps18
      go_wp2_with (go_at_call 19; refine HM.out.mono ?_; rintro e w' ⟨rfl, hc, hso⟩)
      go_ret
      exact ⟨rfl, hc, hso⟩
theorem give_any (w : World) (R o t h g : Nat) (q : Int) (H : CredAt w R o t h g) (hg : g + 65536 ≤ 4611686018427387904) :
    Calls Try.prog 17 #[.pointer (some ⟨R, 0, none⟩), .int .i64 q] w fun e w' => e = .returned (.int .i64 (mvE q h : Nat)) ∧ CredAt w' R (o + mvN q h) t (h - mvN q h) (g + mvN q h) ∧ Sole R w w' := by
  by_cases hq : q < 0
  · have hm := fun i j => move_neg w R q i j hq
    have e1 : mvE q h = 1 := by simp [mvE, hq]
    have e2 : mvN q h = 0 := by unfold mvN; split <;> omega
    rw [e1, e2]
    have HM := Lib.hid hm
    have HH := Lib.hid H
    clear H hm e1 e2
    go_enter Try.func17, Try.ntmps17
    go_wp2_with (go_at_call 19; refine (HM.out _ _).mono ?_; rintro e w' ⟨rfl, rfl⟩)
    go_ret
    exact ⟨rfl, HH.out, Sole.refl _ _⟩
  · by_cases hk : (h : Int) < q
    · have hm := fun j => move_more_h w R o t h g H q j hk
      have e1 : mvE q h = 7 := by simp [mvE, hq, hk]
      have e2 : mvN q h = 0 := by simp [mvN, hk]
      rw [e1, e2]
      have HM := Lib.hid hm
      have HH := Lib.hid H
      clear H hm e1 e2
      go_enter Try.func17, Try.ntmps17
      go_wp2_with (go_at_call 19; refine (HM.out _).mono ?_; rintro e w' ⟨rfl, rfl⟩)
      go_ret
      exact ⟨rfl, HH.out, Sole.refl _ _⟩
    · obtain ⟨n, rfl⟩ : ∃ n : Nat, q = (n : Int) := ⟨q.toNat, by omega⟩
      have hm := move_ho w R o t h g n H (by omega)
      have hs := H.sum
      have e1 : mvE (n : Int) h = 0 := by simp [mvE, hk]
      have e2 : mvN (n : Int) h = n := by simp [mvN]; omega
      rw [e1, e2]
      have HM := Lib.hid hm
      have hw2 : IntKind.i64.wrap ((g : Int) + (n : Int)) = (g : Int) + (n : Int) := IntWalk.i64_in _ (by omega)
      clear H hm e1 e2
      go_enter Try.func17, Try.ntmps17
      go_wp2_with fail
      refine HM.out.mono ?_
      rintro e w' ⟨rfl, hc, hso⟩
      have h3 := hc.c3
      have hf := hc.f
      have HC := Lib.hid hc
      clear hc
      go_wp2_with fail
      try go_region_with fail
      try go_wp2_with fail
      go_ret
      refine ⟨rfl, ⟨?_, HC.out.sum, by omega⟩, ?_⟩
      · refine (show _ = _ from heap_set _ HC.out.blk).trans ?_
        rfl
      · first | exact (hso.set _ _).drew | exact hso.set _ _

theorem mvE_ok {n k : Nat} (h : n ≤ k) : mvE (n : Int) k = 0 := by unfold mvE; rw [if_neg (by omega), if_neg (by omega)]
theorem mvN_ok {n k : Nat} (h : n ≤ k) : mvN (n : Int) k = n := by unfold mvN; rw [if_neg (by omega)]; omega
theorem use_ok (w : World) (R o t h g n : Nat) (H : CredAt w R o t h g) (hn : n ≤ t) :
    Calls Try.prog 16 #[.pointer (some ⟨R, 0, none⟩), .int .i64 (n : Int)] w fun e w' => e = .returned (.int .i64 0) ∧ CredAt w' R o (t - n) (h + n) g ∧ Sole R w w' := by
  have := use_any w R o t h g n H
  rw [mvE_ok hn, mvN_ok hn] at this
  exact this
theorem return_ok (w : World) (R o t h g n : Nat) (H : CredAt w R o t h g) (hn : n ≤ t) :
    Calls Try.prog 18 #[.pointer (some ⟨R, 0, none⟩), .int .i64 (n : Int)] w fun e w' => e = .returned (.int .i64 0) ∧ CredAt w' R (o + n) (t - n) h g ∧ Sole R w w' := by
  have := return_any w R o t h g n H
  rw [mvE_ok hn, mvN_ok hn] at this
  exact this
theorem give_ok (w : World) (R o t h g n : Nat) (H : CredAt w R o t h g) (hg : g + 65536 ≤ 4611686018427387904) (hn : n ≤ h) :
    Calls Try.prog 17 #[.pointer (some ⟨R, 0, none⟩), .int .i64 (n : Int)] w fun e w' => e = .returned (.int .i64 0) ∧ CredAt w' R (o + n) t (h - n) (g + n) ∧ Sole R w w' := by
  have := give_any w R o t h g n H hg
  rw [mvE_ok hn, mvN_ok hn] at this
  exact this

end Go.Proofs.Ytabikfckmjfllaa
