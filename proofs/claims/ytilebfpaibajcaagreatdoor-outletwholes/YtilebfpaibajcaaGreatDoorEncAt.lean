/- An encoder as those who call it see it: Put, End, Given, Left, New. -/
import Derived.Test.YtilebfpaibajcaaGreatDoorEncKinds
import Derived.Test.YtilebfpaibajcaaGreatDoorMH
namespace Go.Proofs.YtilebfpaibajcaaGreatDoor
open Go.ChangeShapes Go.WideShapes Go.ChangeAt Go.RowKit
open Oc Fl Bk Bd
set_option linter.unusedVariables false
set_option maxRecDepth 100000

set_option maxHeartbeats 4000000 in
theorem encPut_any (R K : Nat) (x : Es) (xs : List UInt8) (p : Option Addr) (c : Nat) (w : World) (h : EnAt R K x w) (hx : RD w (.slice p xs.length c) xs) (hp : xs ≠ [] → ∀ g, (Value.slice p xs.length c).ownBlock = some g → g ≠ K) (hl : xs.length ≤ 100000) (hd : x.d ≤ 4611686018427387903) (hz : Tz w) (hg : 7 ≠ K) :
    Calls Tryz.prog 32 #[.pointer (some ⟨R, 0, none⟩), .slice p xs.length c] w fun e w' => ∃ v, e = .returned (.tuple #[v, .int .i64 (putEx x xs : Int)]) ∧ EnQ R K (putEs x xs) w w' v (putBx x xs) := by
  obtain ⟨k, d, done⟩ := x
  have hR := h.enc
  have c1 : w.cell? ⟨R, 1, none⟩ = some (.bool done) := by simp [World.cell?, hR]
  cases done with
  | true =>
    have HQ := Lib.hid (EnQ.none h (Below.refl _ _))
    show Calls _ _ _ _ fun e w' => ∃ v, e = .returned (.tuple #[v, .int .i64 8]) ∧ EnQ R K ⟨k, d, true⟩ w w' v []
    clear h hx hp hR hz
    go_enter Tryz.func32, Tryz.ntmps32
    go_wp2_with fail
    go_ret2
    exact ⟨_, rfl, HQ.out⟩
  | false =>
    cases k with
    | fix s =>
      refine (fixPut_any R K s d xs p c w ⟨h.enc, h.knd, h.ne, h.ok.1, h.ok.2⟩ hx hp hl).mono ?_
      rintro e w' ⟨v, rfl, hq⟩
      exact ⟨v, rfl, ⟨⟨hq.at_.enc, hq.at_.knd, hq.at_.ne, hq.at_.le, hq.at_.big⟩, hq.rd, Sol2.of_right hq.sol, hq.own⟩⟩
    | chk =>
      refine (chkPut_any R K d xs p c w ⟨h.enc, h.knd, h.ne⟩ hx hp hl hd hz hg).mono ?_
      rintro e w' ⟨v, rfl, hq⟩
      exact ⟨v, rfl, ⟨⟨hq.at_.enc, hq.at_.knd, hq.at_.ne, trivial⟩, hq.rd, Sol2.of_right hq.sol, hq.own⟩⟩
    | unt =>
      have HP := Lib.hid (uput_any K d _ _ xs p c w h.knd rfl hx hp hl hd)
      have c0 : w.cell? ⟨R, 0, none⟩ = some (.iface 95 (.pointer (some ⟨K, 0, none⟩))) := by simp [World.cell?, hR, K10.ty]
      have HQ : Hid (∀ v w', Own10 (w.setCell ⟨K, 0, none⟩ (.int .i64 ((d + xs.length : Nat) : Int))) w' v xs → EnQ R K ⟨.unt, d + xs.length, false⟩ w w' v xs) := Lib.hid fun v w' hO => by
        have hb := hO.below
        have e0 : (w.setCell ⟨K, 0, none⟩ (.int .i64 ((d + xs.length : Nat) : Int))).heap.size = w.heap.size := by simp [World.setCell]
        refine ⟨⟨?_, ?_, h.ne, trivial⟩, hO.rd, (Sol2.of_right (Sol10.set K 0 _ w)).trans (Sol2.of_below hb), fun g hg => by have := hO.own g hg; omega⟩
        · exact (hb.block R (by rw [e0]; exact h.ltR)).trans ((Below.heap_setCell _ _ _ _ h.ne).trans h.enc)
        · exact (hb.block K (by rw [e0]; exact h.ltK)).trans (heap_set _ h.knd)
      show Calls _ _ _ _ fun e w' => ∃ v, e = .returned (.tuple #[v, .int .i64 0]) ∧ EnQ R K ⟨.unt, d + xs.length, false⟩ w w' v xs
      clear h hx hp hR hz
      go_enter Tryz.func32, Tryz.ntmps32
      go_wp2_with fail
      refine HP.out.mono ?_
      rintro e w3 ⟨v, rfl, hO⟩
      have HQ2 := Lib.hid (HQ.out v w3 hO)
      clear hO
      go_wp2_with fail
      go_ret2
      exact ⟨_, rfl, HQ2.out⟩

/-- Behind the end of its kind. -/
theorem end_key (R K : Nat) (k : K10) (d : Nat) (w : World) (h : EnAt R K ⟨k, d, false⟩ w) (w1 : World) (v : Value) (ys : List UInt8) (hO : Own10 w w1 v ys) (b : Bool) : EnQ R K ⟨k, d, b⟩ w (w1.setCell ⟨R, 1, none⟩ (.bool b)) v ys := by
  have hb := hO.below
  have hR := h.ltR
  have e0 : (w1.setCell ⟨R, 1, none⟩ (.bool b)).heap.size = w1.heap.size := by simp [World.setCell]
  have he := (hb.block R hR).trans h.enc
  refine ⟨⟨?_, ?_, h.ne, h.ok⟩, hO.rd.kept fun g hg => Below.heap_setCell _ _ _ _ (by have h1 := (hO.own g hg).1; show g ≠ R; omega), (Sol2.of_below hb).trans (Sol2.of_left (Sol10.set R 1 _ w1)), fun g hg => by have := hO.own g hg; omega⟩
  · exact heap_set _ he
  · exact (Below.heap_setCell _ _ _ _ (Ne.symm h.ne)).trans ((hb.block K h.ltK).trans h.knd)
theorem end_cell (R K : Nat) (k : K10) (d : Nat) (w : World) (h : EnAt R K ⟨k, d, false⟩ w) (w1 : World) (hb : Below w.heap.size w w1) : w1.cell? ⟨R, 1, none⟩ = some (.bool false) ∧ w1.frozen? ⟨R, 1, none⟩ = false := by
  have := (hb.block R h.ltR).trans h.enc
  simp [World.cell?, World.frozen?, this]

set_option maxHeartbeats 2000000 in
theorem end_fix (R K : Nat) (d : Nat) (l : List Fld) (p : Option Addr) (c : Nat) (w : World) (s : Nat) (h : EnAt R K ⟨.fix s, d, false⟩ w) (q : Nat) (ys : List UInt8)
    (hP : Calls Tryz.prog 136 #[.pointer (some ⟨K, 0, none⟩), .slice p l.length c] w fun e w' => ∃ v, e = .returned (.tuple #[v, .int .i64 (q : Int)]) ∧ Own10 w w' v ys) :
    Calls Tryz.prog 25 #[.pointer (some ⟨R, 0, none⟩), .slice p l.length c] w fun e w' => ∃ v, e = .returned (.tuple #[v, .int .i64 (q : Int)]) ∧ EnQ R K ⟨.fix s, d, decide (q = 0)⟩ w w' v ys := by
  have HP := Lib.hid hP
  have hR := h.enc
  have c0 : w.cell? ⟨R, 0, none⟩ = some (.iface 87 (.pointer (some ⟨K, 0, none⟩))) := by simp [World.cell?, hR, K10.ty]
  have c1 : w.cell? ⟨R, 1, none⟩ = some (.bool false) := by simp [World.cell?, hR]
  have HK := Lib.hid (end_key R K _ d w h)
  have HC := Lib.hid (end_cell R K _ d w h)
  clear h hR hP
  by_cases hq : q = 0
  · subst hq
    rw [decide_eq_true rfl]
    go_enter Tryz.func25, Tryz.ntmps25
    go_wp2_with fail
    refine HP.out.mono ?_
    rintro e w1 ⟨v, rfl, hO⟩
    obtain ⟨q0, q1⟩ := HC.out w1 hO.below
    have HQ := Lib.hid (HK.out w1 v ys hO)
    clear hO HP
    go_wp2_with fail
    go_ret2
    exact ⟨_, rfl, HQ.out _⟩
  · rw [decide_eq_false hq]
    have hb : ((q : Int) == 0) = false := beq_eq_false_iff_ne.2 (by omega)
    clear hq
    go_enter Tryz.func25, Tryz.ntmps25
    go_wp2_with fail
    refine HP.out.mono ?_
    rintro e w1 ⟨v, rfl, hO⟩
    obtain ⟨q0, q1⟩ := HC.out w1 hO.below
    have HQ := Lib.hid (HK.out w1 v ys hO)
    clear hO HP
    go_wp2_with fail
    go_ret2
    exact ⟨_, rfl, HQ.out _⟩

set_option maxHeartbeats 2000000 in
theorem end_chk (R K : Nat) (d : Nat) (l : List Fld) (p : Option Addr) (c : Nat) (w : World) (h : EnAt R K ⟨.chk, d, false⟩ w) (q : Nat) (ys : List UInt8)
    (hP : Calls Tryz.prog 145 #[.pointer (some ⟨K, 0, none⟩), .slice p l.length c] w fun e w' => ∃ v, e = .returned (.tuple #[v, .int .i64 (q : Int)]) ∧ Own10 w w' v ys) :
    Calls Tryz.prog 25 #[.pointer (some ⟨R, 0, none⟩), .slice p l.length c] w fun e w' => ∃ v, e = .returned (.tuple #[v, .int .i64 (q : Int)]) ∧ EnQ R K ⟨.chk, d, decide (q = 0)⟩ w w' v ys := by
  have HP := Lib.hid hP
  have hR := h.enc
  have c0 : w.cell? ⟨R, 0, none⟩ = some (.iface 92 (.pointer (some ⟨K, 0, none⟩))) := by simp [World.cell?, hR, K10.ty]
  have c1 : w.cell? ⟨R, 1, none⟩ = some (.bool false) := by simp [World.cell?, hR]
  have HK := Lib.hid (end_key R K _ d w h)
  have HC := Lib.hid (end_cell R K _ d w h)
  clear h hR hP
  by_cases hq : q = 0
  · subst hq
    rw [decide_eq_true rfl]
    go_enter Tryz.func25, Tryz.ntmps25
    go_wp2_with fail
    refine HP.out.mono ?_
    rintro e w1 ⟨v, rfl, hO⟩
    obtain ⟨q0, q1⟩ := HC.out w1 hO.below
    have HQ := Lib.hid (HK.out w1 v ys hO)
    clear hO HP
    go_wp2_with fail
    go_ret2
    exact ⟨_, rfl, HQ.out _⟩
  · rw [decide_eq_false hq]
    have hb : ((q : Int) == 0) = false := beq_eq_false_iff_ne.2 (by omega)
    clear hq
    go_enter Tryz.func25, Tryz.ntmps25
    go_wp2_with fail
    refine HP.out.mono ?_
    rintro e w1 ⟨v, rfl, hO⟩
    obtain ⟨q0, q1⟩ := HC.out w1 hO.below
    have HQ := Lib.hid (HK.out w1 v ys hO)
    clear hO HP
    go_wp2_with fail
    go_ret2
    exact ⟨_, rfl, HQ.out _⟩

set_option maxHeartbeats 2000000 in
theorem end_unt (R K : Nat) (d : Nat) (l : List Fld) (p : Option Addr) (c : Nat) (w : World) (h : EnAt R K ⟨.unt, d, false⟩ w) (q : Nat) (ys : List UInt8)
    (hP : Calls Tryz.prog 171 #[.pointer (some ⟨K, 0, none⟩), .slice p l.length c] w fun e w' => ∃ v, e = .returned (.tuple #[v, .int .i64 (q : Int)]) ∧ Own10 w w' v ys) :
    Calls Tryz.prog 25 #[.pointer (some ⟨R, 0, none⟩), .slice p l.length c] w fun e w' => ∃ v, e = .returned (.tuple #[v, .int .i64 (q : Int)]) ∧ EnQ R K ⟨.unt, d, decide (q = 0)⟩ w w' v ys := by
  have HP := Lib.hid hP
  have hR := h.enc
  have c0 : w.cell? ⟨R, 0, none⟩ = some (.iface 95 (.pointer (some ⟨K, 0, none⟩))) := by simp [World.cell?, hR, K10.ty]
  have c1 : w.cell? ⟨R, 1, none⟩ = some (.bool false) := by simp [World.cell?, hR]
  have HK := Lib.hid (end_key R K _ d w h)
  have HC := Lib.hid (end_cell R K _ d w h)
  clear h hR hP
  by_cases hq : q = 0
  · subst hq
    rw [decide_eq_true rfl]
    go_enter Tryz.func25, Tryz.ntmps25
    go_wp2_with fail
    refine HP.out.mono ?_
    rintro e w1 ⟨v, rfl, hO⟩
    obtain ⟨q0, q1⟩ := HC.out w1 hO.below
    have HQ := Lib.hid (HK.out w1 v ys hO)
    clear hO HP
    go_wp2_with fail
    go_ret2
    exact ⟨_, rfl, HQ.out _⟩
  · rw [decide_eq_false hq]
    have hb : ((q : Int) == 0) = false := beq_eq_false_iff_ne.2 (by omega)
    clear hq
    go_enter Tryz.func25, Tryz.ntmps25
    go_wp2_with fail
    refine HP.out.mono ?_
    rintro e w1 ⟨v, rfl, hO⟩
    obtain ⟨q0, q1⟩ := HC.out w1 hO.below
    have HQ := Lib.hid (HK.out w1 v ys hO)
    clear hO HP
    go_wp2_with fail
    go_ret2
    exact ⟨_, rfl, HQ.out _⟩

set_option maxHeartbeats 4000000 in
theorem encEnd_any (R K : Nat) (x : Es) (l : List Fld) (p : Option Addr) (c : Nat) (w : World) (h : EnAt R K x w) (hF : FS w (.slice p l.length c) l) (hl : bulk l ≤ 2000) (hsp : Spans w) :
    Calls Tryz.prog 25 #[.pointer (some ⟨R, 0, none⟩), .slice p l.length c] w fun e w' => ∃ v, e = .returned (.tuple #[v, .int .i64 (endEx x l : Int)]) ∧ EnQ R K (endEs x l) w w' v (endBx x l) := by
  obtain ⟨k, d, done⟩ := x
  cases done with
  | true =>
    have hR := h.enc
    have c1 : w.cell? ⟨R, 1, none⟩ = some (.bool true) := by simp [World.cell?, hR]
    have HQ := Lib.hid (EnQ.none h (Below.refl _ _))
    show Calls _ _ _ _ fun e w' => ∃ v, e = .returned (.tuple #[v, .int .i64 8]) ∧ EnQ R K ⟨k, d, true⟩ w w' v []
    clear h hF hR hsp
    go_enter Tryz.func25, Tryz.ntmps25
    go_wp2_with fail
    go_ret2
    exact ⟨_, rfl, HQ.out⟩
  | false =>
    have own0 : ∀ w', Below w.heap.size w w' → Own10 w w' (.slice none 0 0) [] := fun w' hb => ⟨RD.nil _, hb, fun g hg => by simp [Value.ownBlock] at hg⟩
    cases k with
    | fix s =>
      exact end_fix R K d l p c w s h (endEx ⟨.fix s, d, false⟩ l) [] ((fendL_any R K s d l p c w ⟨h.enc, h.knd, h.ne, h.ok.1, h.ok.2⟩ hF hl hsp).mono fun e w' hq => ⟨_, hq.1, own0 w' hq.2⟩)
    | chk =>
      exact end_chk R K d l p c w h (wrongE l) (lastB l) ((cend_any K l p c w hF hl hsp).mono fun e w' ⟨v, e1, e2⟩ => ⟨v, by rw [e1, wrongE_put], e2⟩)
    | unt =>
      exact end_unt R K d l p c w h (wrongE l) [] ((uendL_any K l p c w hF hl hsp).mono fun e w' hq => ⟨_, hq.1, own0 w' hq.2⟩)

set_option maxHeartbeats 2000000 in
theorem encGiven_any (R K : Nat) (x : Es) (w : World) (h : EnAt R K x w) :
    Calls Tryz.prog 19 #[.pointer (some ⟨R, 0, none⟩)] w fun e w' => e = .returned (.int .i64 (x.d : Int)) ∧ w = w' := by
  obtain ⟨k, d, done⟩ := x
  have hR := h.enc
  cases k with
  | fix s =>
    have HP := Lib.hid (given10_any K d _ _ w h.knd rfl)
    have c0 : w.cell? ⟨R, 0, none⟩ = some (.iface 87 (.pointer (some ⟨K, 0, none⟩))) := by simp [World.cell?, hR, K10.ty]
    clear h hR
    go_enter Tryz.func19, Tryz.ntmps19
    go_wp2_with fail
    refine HP.out.mono ?_
    rintro e w' ⟨rfl, rfl⟩
    go_wp2_with fail
    go_ret
    exact ⟨rfl, rfl⟩
  | chk =>
    have HP := Lib.hid (given10_any K d _ _ w h.knd rfl)
    have c0 : w.cell? ⟨R, 0, none⟩ = some (.iface 92 (.pointer (some ⟨K, 0, none⟩))) := by simp [World.cell?, hR, K10.ty]
    clear h hR
    go_enter Tryz.func19, Tryz.ntmps19
    go_wp2_with fail
    refine HP.out.mono ?_
    rintro e w' ⟨rfl, rfl⟩
    go_wp2_with fail
    go_ret
    exact ⟨rfl, rfl⟩
  | unt =>
    have HP := Lib.hid (given10_any K d _ _ w h.knd rfl)
    have c0 : w.cell? ⟨R, 0, none⟩ = some (.iface 95 (.pointer (some ⟨K, 0, none⟩))) := by simp [World.cell?, hR, K10.ty]
    clear h hR
    go_enter Tryz.func19, Tryz.ntmps19
    go_wp2_with fail
    refine HP.out.mono ?_
    rintro e w' ⟨rfl, rfl⟩
    go_wp2_with fail
    go_ret
    exact ⟨rfl, rfl⟩

set_option maxHeartbeats 2000000 in
theorem untNew_any (w : World) :
    Calls Tryz.prog 24 #[.agg #[.int .i64 3, .int .u64 0]] w fun e w' => ∃ R K, e = .returned (.tuple #[.pointer (some ⟨R, 0, none⟩), .int .i64 0]) ∧ EnAt R K ⟨.unt, 0, false⟩ w' ∧ Below w.heap.size w w' ∧ w.heap.size ≤ R ∧ w.heap.size ≤ K := by
  obtain ⟨w1, hw1⟩ : ∃ w1, w.alloc (.cells #[.int .i64 3, .int .u64 0] 24) = w1 := ⟨_, rfl⟩
  obtain ⟨w2, hw2⟩ : ∃ w2, w1.alloc (.cells #[.int .i64 0] 96) = w2 := ⟨_, rfl⟩
  obtain ⟨w3, hw3⟩ : ∃ w3, w2.alloc (.cells #[.iface 95 (.pointer (some ⟨w1.heap.size, 0, none⟩)), .bool false] 73) = w3 := ⟨_, rfl⟩
  have b1 : Below w.heap.size w w1 := by rw [← hw1]; exact below_box _ _
  have b2 : Below w1.heap.size w1 w2 := by rw [← hw2]; exact below_box _ _
  have b3 : Below w2.heap.size w2 w3 := by rw [← hw3]; exact below_box _ _
  have z1 : w1.heap.size = w.heap.size + 1 := by rw [← hw1]; simp
  have z2 : w2.heap.size = w1.heap.size + 1 := by rw [← hw2]; simp
  have hQ : EnAt w2.heap.size w1.heap.size ⟨.unt, 0, false⟩ w3 ∧ Below w.heap.size w w3 ∧ w.heap.size ≤ w2.heap.size ∧ w.heap.size ≤ w1.heap.size := by
    refine ⟨⟨?_, ?_, by omega, trivial⟩, ahead (ahead b1 b2) b3, by omega, by omega⟩
    · rw [← hw3]; exact World.alloc_heap_new w2 _
    · rw [b3.block _ (by omega), ← hw2]; exact World.alloc_heap_new w1 _
  rw [z2, z1] at hQ
  rw [z1] at hw3
  rw [← hw3, ← hw2, ← hw1] at hQ
  have HQ := Lib.hid hQ
  clear b1 b2 b3 z1 z2 hQ hw1 hw2 hw3
  go_enter Tryz.func24, Tryz.ntmps24
  go_wp2_with fail
  go_ret2
  exact ⟨w.heap.size + 1 + 1, w.heap.size + 1, rfl, HQ.out⟩

set_option maxHeartbeats 2000000 in
theorem encNew_bad (kind : Int) (size : Nat) (w : World) (h : rightE kind size = false) :
    Calls Tryz.prog 24 #[.agg #[.int .i64 kind, .int .u64 (size : Int)]] w fun e w' => e = .returned (.tuple #[.pointer none, .int .i64 1]) ∧ Below w.heap.size w w' := by
  have HB := Lib.hid (below_box w (.cells #[.int .i64 kind, .int .u64 (size : Int)] 24))
  unfold rightE at h
  by_cases h1 : kind = 1
  · subst h1
    have hs : ¬ (size : Int) ≤ 4611686018427387903 := by simp at h; omega
    clear h
    go_enter Tryz.func24, Tryz.ntmps24
    go_wp2_with fail
    go_ret2
    exact ⟨rfl, HB.out⟩
  by_cases h2 : kind = 2
  · subst h2
    have hs : ((size : Int) == 0) = false := by simp at h; exact beq_eq_false_iff_ne.2 (by omega)
    clear h h1
    go_enter Tryz.func24, Tryz.ntmps24
    go_wp2_with fail
    go_ret2
    exact ⟨rfl, HB.out⟩
  by_cases h3 : kind = 3
  · subst h3
    have hs : ((size : Int) == 0) = false := by simp at h; exact beq_eq_false_iff_ne.2 (by omega)
    clear h h1 h2
    go_enter Tryz.func24, Tryz.ntmps24
    go_wp2_with fail
    go_ret2
    exact ⟨rfl, HB.out⟩
  · have k1 : (kind == 1) = false := beq_eq_false_iff_ne.2 h1
    have k2 : (kind == 2) = false := beq_eq_false_iff_ne.2 h2
    have k3 : (kind == 3) = false := beq_eq_false_iff_ne.2 h3
    clear h h1 h2 h3
    go_enter Tryz.func24, Tryz.ntmps24
    go_wp2_with fail
    go_ret2
    exact ⟨rfl, HB.out⟩

theorem encNew_any (kind : Int) (size : Nat) (w : World) (h : rightE kind size = true) :
    Calls Tryz.prog 24 #[.agg #[.int .i64 kind, .int .u64 (size : Int)]] w fun e w' => ∃ R K, e = .returned (.tuple #[.pointer (some ⟨R, 0, none⟩), .int .i64 0]) ∧ EnAt R K (newEs kind size) w' ∧ Below w.heap.size w w' ∧ w.heap.size ≤ R ∧ w.heap.size ≤ K := by
  unfold rightE at h
  by_cases h1 : kind = 1
  · subst h1
    refine (fixNew_any size w (by simp at h; exact h)).mono ?_
    rintro e w' ⟨R, K, rfl, hq, hb, h2, h3⟩
    exact ⟨R, K, rfl, ⟨hq.enc, hq.knd, hq.ne, hq.le, hq.big⟩, hb, h2, h3⟩
  by_cases h2 : kind = 2
  · subst h2
    obtain rfl : size = 0 := by simp at h; exact h
    refine (chkNew_any w).mono ?_
    rintro e w' ⟨R, K, rfl, hq, hb, h2, h3⟩
    exact ⟨R, K, rfl, ⟨hq.enc, hq.knd, hq.ne, trivial⟩, hb, h2, h3⟩
  · obtain ⟨rfl, rfl⟩ : kind = 3 ∧ size = 0 := by simp [h1, h2] at h; exact h
    refine (untNew_any w).mono ?_
    rintro e w' ⟨R, K, rfl, hq, hb, h2, h3⟩
    exact ⟨R, K, rfl, hq, hb, h2, h3⟩

end Go.Proofs.YtilebfpaibajcaaGreatDoor
