/- The law's do; the law CreditActs. -/
import Derived.Test.YtabikfckmjfllaaCreditActs
namespace Go.Proofs.Ytabikfckmjfllaa
open Go.ChangeShapes Go.WideShapes Go.ChangeAt Go.RowKit
set_option linter.unusedVariables false

theorem do_any (w : World) (R : Nat) (k : Nat) (hk : k < 4) (q : Int) (o t h g : Nat) (H : CredAt w R o t h g) (hg : g + 65536 ≤ 4611686018427387904) :
    Calls Try.prog 10 #[.pointer (some ⟨R, 0, none⟩), .int .i64 (k : Int), .int .i64 q] w fun e w' => e = .returned (.int .i64 (actA k q o t h : Nat)) ∧ CredAt w' R (actO k q o t h) (actT k q o t h) (actH k q o t h) (actG k q h g) ∧ Sole R w w' := by
  match k, hk with
  | 0, _ =>
    have hc := Lib.hid (take_any w R o t h g q H)
    clear H
    simp only [actO, actT, actH, actG, actA]
    go_enter Try.func10, Try.ntmps10
    go_wp2_with (go_at_call 15; refine hc.out.mono ?_; rintro e w' ⟨rfl, h1, h2⟩)
    go_ret
    exact ⟨rfl, h1, h2⟩
  | 1, _ =>
    have hc := Lib.hid (use_any w R o t h g q H)
    clear H
    simp only [actO, actT, actH, actG, actA]
    go_enter Try.func10, Try.ntmps10
    go_wp2_with (go_at_call 16; refine hc.out.mono ?_; rintro e w' ⟨rfl, h1, h2⟩)
    go_ret
    exact ⟨rfl, h1, h2⟩
  | 2, _ =>
    have hc := Lib.hid (return_any w R o t h g q H)
    clear H
    simp only [actO, actT, actH, actG, actA]
    go_enter Try.func10, Try.ntmps10
    go_wp2_with (go_at_call 18; refine hc.out.mono ?_; rintro e w' ⟨rfl, h1, h2⟩)
    go_ret
    exact ⟨rfl, h1, h2⟩
  | 3, _ =>
    have hc := Lib.hid (give_any w R o t h g q H hg)
    clear H
    simp only [actO, actT, actH, actG, actA]
    go_enter Try.func10, Try.ntmps10
    go_wp2_with (go_at_call 17; refine hc.out.mono ?_; rintro e w' ⟨rfl, h1, h2⟩)
    go_ret
    exact ⟨rfl, h1, h2⟩

/-- A call of the list. -/
structure CallV where
  kind : UInt8
  n : Int
/-- The list of calls in memory. -/
def CallsAt (W : World) (p : Option Addr) (os : List CallV) : Prop :=
  ∀ i o, os[i]? = some o → ∃ ad, p = some ad ∧ W.cell? (ad.add (i * 2)) = some (.int .u8 (o.kind.toNat : Int)) ∧ W.cell? ⟨(ad.add (i * 2)).block, (ad.add (i * 2)).off + 1, none⟩ = some (.int .i64 o.n)
theorem CallsAt.below {W W' : World} {p : Option Addr} {os : List CallV} (h : CallsAt W p os) (hb : Below W.heap.size W W') : CallsAt W' p os := fun i o hi => by
  obtain ⟨ad, rfl, h1, h2⟩ := h i o hi
  exact ⟨ad, rfl, (hb.cell (World.block_lt_of_cell? W _ h1)).trans h1, (hb.cell (World.block_lt_of_cell? W _ h2)).trans h2⟩
theorem two_cells {A : World} {R : Nat} {x y : Value} {t : TypeId} (h : A.heap[R]? = some (.cells #[x, y] t (0, 0))) :
    A.cell? ⟨R, 0, none⟩ = some x ∧ A.cell? ⟨R, 1, none⟩ = some y ∧ ∀ i, A.frozen? ⟨R, i, none⟩ = false := by
  simp [World.cell?, World.frozen?, h]

theorem cells6 {A : World} {X Y : Nat} {a b c d x y : Value} {t u : TypeId} (h : A.heap[X]? = some (.cells #[a, b, c, d] t (0, 0))) (g : A.heap[Y]? = some (.cells #[x, y] u (0, 0))) :
    A.cell? ⟨X, 0, none⟩ = some a ∧ A.cell? ⟨X, 1, none⟩ = some b ∧ A.cell? ⟨X, 2, none⟩ = some c ∧ A.cell? ⟨X, 3, none⟩ = some d ∧ A.cell? ⟨Y, 0, none⟩ = some x ∧ A.cell? ⟨Y, 1, none⟩ = some y :=
  ⟨(four_cells h).1, (four_cells h).2.1, (four_cells h).2.2.1, (four_cells h).2.2.2.1, (two_cells g).1, (two_cells g).2.1⟩

set_option maxRecDepth 20000 in
set_option maxHeartbeats 4000000 in
theorem cacts_walk (q : Int) (q0 : -9223372036854775808 ≤ q) (q1 : q ≤ 9223372036854775807) (p0 : Option Addr) (c0 : Nat) (os : List CallV) (w : World) (hO : CallsAt w p0 os) (hl : os.length ≤ 9223372036854775807) (hon : ∀ o ∈ os, -9223372036854775808 ≤ o.n ∧ o.n ≤ 9223372036854775807) :
    Calls Try.prog 3 #[.int .i64 q, .slice p0 os.length c0] w fun e w' => e = .returned (.bool true) ∧ Below w.heap.size w w' := by
  have HO := Lib.hid hO
  have HON := Lib.hid hon
  clear hO hon
  by_cases h50 : 50 < os.length
  · have h50' : (50 : Int) < (os.length : Int) := by omega
    go_enter Try.func3, Try.ntmps3
    go_wp2_with (go_at_call 7; refine (cred_wakes _).mono ?_; rintro e w0 ⟨rfl, hb0⟩)
    go_ret
    exact ⟨rfl, hb0⟩
  have h50' : ¬ ((50 : Int) < (os.length : Int)) := by omega
  by_cases hq : q < 1 ∨ 65536 < q
  · rcases hq with hq | hq
    · go_enter Try.func3, Try.ntmps3
      go_wp2_with (first
        | (go_at_call 7; refine (cred_wakes _).mono ?_; rintro e w0 ⟨rfl, hb0⟩)
        | (go_at_call 8; refine (cred_new_bad _ q (.inl hq)).mono ?_; rintro e w' ⟨rfl, rfl⟩))
      go_ret
      exact ⟨rfl, hb0⟩
    · have hq2 : ¬ (q < 1) := by omega
      go_enter Try.func3, Try.ntmps3
      go_wp2_with (first
        | (go_at_call 7; refine (cred_wakes _).mono ?_; rintro e w0 ⟨rfl, hb0⟩)
        | (go_at_call 8; refine (cred_new_bad _ q (.inr hq)).mono ?_; rintro e w' ⟨rfl, rfl⟩))
      go_ret
      exact ⟨rfl, hb0⟩
  obtain ⟨N, rfl⟩ : ∃ N : Nat, q = (N : Int) := ⟨q.toNat, by omega⟩
  have hN1 : 1 ≤ N := by omega
  have hN2 : N ≤ 65536 := by omega
  have hq1 : ¬ ((N : Int) < 1) := by omega
  have hq2 : ¬ (65536 < (N : Int)) := by omega
  clear hq q0 q1
  go_enter Try.func3, Try.ntmps3
  go_wp2_with (go_at_call 7; refine (cred_wakes _).mono ?_; rintro e w0 ⟨rfl, hb0⟩)
  refine (cred_new_any w0 N hN1 hN2).mono ?_
  rintro e w1 ⟨R, rfl, hc, hR, b1⟩
  have B1 : Below w.heap.size w w1 := hb0.trans (b1.mono hb0.size)
  have hRw : w.heap.size ≤ R := Nat.le_trans hb0.size hR
  have HC := Lib.hid hc
  clear hc b1 hb0
  go_wp2_with fail
  obtain ⟨X, hX⟩ : ∃ X, w1.heap.size = X := ⟨_, rfl⟩
  have hXR : X ≠ R := by have := HC.out.lt; omega
  have hXw : w.heap.size ≤ X := by have := B1.size; omega
  have B2 : Below w.heap.size w (w1.alloc (.cells #[.int .i64 (N : Int), .int .i64 0, .int .i64 0, .int .i64 0] 29)) := B1.alloc B1.size _
  have hC2 := HC.out.below ((Below.refl _ w1).alloc (Nat.le_refl _) (.cells #[.int .i64 (N : Int), .int .i64 0, .int .i64 0, .int .i64 0] 29))
  have hX2 := World.alloc_heap_new w1 (.cells #[.int .i64 (N : Int), .int .i64 0, .int .i64 0, .int .i64 0] 29)
  rw [hX] at hX2 ⊢
  generalize (w1.alloc (.cells #[.int .i64 (N : Int), .int .i64 0, .int .i64 0, .int .i64 0] 29)) = w2 at B2 hC2 hX2 ⊢
  have HC2 := Lib.hid hC2
  have HX2 := Lib.hid hX2
  clear hX HC B1 hR hC2 hX2
  go_loopw [44] (fun i wr => ∃ (k o t h g : Nat), i = .int .i64 (k : Int) ∧ k ≤ os.length ∧ o + t + h = N ∧ g ≤ k * 65536 ∧ CredAt wr R o t h g ∧ wr.heap[X]? = some (.cells #[.int .i64 (o : Int), .int .i64 (t : Int), .int .i64 (h : Int), .int .i64 (g : Int)] 29 (0, 0)) ∧ Below w.heap.size w wr) (fun i _ => os.length - (intOf i).toNat)
  case atStart => exact ⟨0, N, 0, 0, 0, rfl, Nat.zero_le _, rfl, Nat.zero_le _, HC2.out, HX2.out, B2⟩
  case round =>
    clear HC2 HX2 B2
    obtain ⟨k, o, t, h, g, rfl, hk, hsum, hg, hc, hx, hB⟩ := hrel
    by_cases hlt : k < os.length
    · have hlt' : (k : Int) < (os.length : Int) := by omega
      obtain ⟨ad, rfl, e1, e2⟩ := HO.out.below hB k _ (List.getElem?_eq_getElem hlt)
      have eo := HON.out _ (List.getElem_mem hlt)
      generalize os[k] = op at e1 e2 eo
      obtain ⟨kd, on⟩ := op
      simp only at e1 e2 eo
      obtain ⟨kk, hkk⟩ : ∃ kk : Nat, kd.toNat % 4 = kk := ⟨_, rfl⟩
      have hk4 : (kd.toNat : Int) % 4 = (kk : Int) := by omega
      have hkl : kk < 4 := by omega
      clear hkk
      obtain ⟨x0, x1, x2, x3, x4⟩ := four_cells hx
      have hXlt := (Array.getElem?_eq_some_iff.1 hx).1
      have HC := Lib.hid hc
      have HX := Lib.hid hx
      have HS := Lib.hid hsum
      clear hc hx hsum
      go_wp2_with fail
      obtain ⟨wa, hwa⟩ : ∃ wa, wr.alloc (.cells #[.int .u8 (kd.toNat : Int), .int .i64 on] 31) = wa := ⟨_, rfl⟩
      have ba : Below wr.heap.size wr wa := by rw [← hwa]; exact (Below.refl _ wr).alloc (Nat.le_refl _) _
      have sa : wa.heap.size = wr.heap.size + 1 := by rw [← hwa]; simp
      have eoa : wa.heap[wr.heap.size]? = some (.cells #[.int .u8 (kd.toNat : Int), .int .i64 on] 31 (0, 0)) := by rw [← hwa]; exact World.alloc_heap_new wr _
      rw [hwa]
      clear hwa x0 x1 x2 x3 x4
      have hgb : g + 65536 ≤ 4611686018427387904 := by omega
      have hsm := HS.out
      have hdo := rdo_any wa kk hkl on o t h g (by omega) hgb
      have hact := fun (W : World) (H : CredAt W R o t h g) => do_any W R kk hkl on o t h g H hgb
      have hsum := act_sum kk on o t h
      have hag := act_g kk on h g
      rw [hsm] at hsum
      unfold credV at hdo
      generalize actO kk on o t h = o' at hdo hact hsum
      generalize actT kk on o t h = t' at hdo hact hsum
      generalize actH kk on o t h = h' at hdo hact hsum
      generalize actG kk on h g = g' at hdo hact hag
      generalize actA kk on o t h = a' at hdo hact
      have hgk : g' ≤ (k + 1) * 65536 := by omega
      have HS' := Lib.hid hsum
      have HACT := Lib.hid hact
      refine hdo.mono ?_
      rintro e w5 ⟨rfl, b5⟩
      have B5 : Below wr.heap.size wr w5 := ba.trans (b5.mono ba.size)
      have z5 := b5.size
      have hx5 := (B5.block _ hXlt).trans HX.out
      have hop5 := (b5.block _ (by omega)).trans eoa
      have hlt5 : wr.heap.size < w5.heap.size := by omega
      have hltX : X < w5.heap.size := by omega
      obtain ⟨x0, x1, x2, x3, x4⟩ := four_cells hx5
      obtain ⟨p0, p1, p2⟩ := two_cells hop5
      have HX5 := Lib.hid hx5
      have HP5 := Lib.hid hop5
      have hc5 := HC.out.below B5
      have HC5 := Lib.hid hc5
      have hRlt := hc5.lt
      have hBX : Below w.heap.size w w5 := hB.trans (B5.mono hB.size)
      have hXP : wr.heap.size ≠ X := by omega
      have hRP : wr.heap.size ≠ R := by have := HC.out.lt; omega
      clear hdo hact hsum hsm hx5 hop5 eoa b5 hc5
      go_wp2_with fail
      have j1 : ∀ r, r ≠ X → r < w5.heap.size → (((((w5.setCell ⟨X, 0, none⟩ (.int .i64 (o' : Int))).setCell ⟨X, 1, none⟩ (.int .i64 (t' : Int))).setCell ⟨X, 2, none⟩ (.int .i64 (h' : Int))).setCell ⟨X, 3, none⟩ (.int .i64 (g' : Int))).alloc (.cells #[.int .i64 (o' : Int), .int .i64 (t' : Int), .int .i64 (h' : Int), .int .i64 (g' : Int)] 29)).heap[r]? = w5.heap[r]? := fun r hr hl =>
        (Below.heap_alloc _ _ _ (by simpa [World.setCell] using hl)).trans ((Below.heap_setCell _ _ _ _ hr).trans ((Below.heap_setCell _ _ _ _ hr).trans ((Below.heap_setCell _ _ _ _ hr).trans (Below.heap_setCell _ _ _ _ hr))))
      have j2 : (((((w5.setCell ⟨X, 0, none⟩ (.int .i64 (o' : Int))).setCell ⟨X, 1, none⟩ (.int .i64 (t' : Int))).setCell ⟨X, 2, none⟩ (.int .i64 (h' : Int))).setCell ⟨X, 3, none⟩ (.int .i64 (g' : Int))).alloc (.cells #[.int .i64 (o' : Int), .int .i64 (t' : Int), .int .i64 (h' : Int), .int .i64 (g' : Int)] 29)).heap[X]? = some (.cells #[.int .i64 (o' : Int), .int .i64 (t' : Int), .int .i64 (h' : Int), .int .i64 (g' : Int)] 29 (0, 0)) :=
        (Below.heap_alloc _ _ _ (by simpa [World.setCell] using hltX)).trans (heap_set _ (heap_set _ (heap_set _ (heap_set _ HX5.out))))
      have j3 : Below w.heap.size w (((((w5.setCell ⟨X, 0, none⟩ (.int .i64 (o' : Int))).setCell ⟨X, 1, none⟩ (.int .i64 (t' : Int))).setCell ⟨X, 2, none⟩ (.int .i64 (h' : Int))).setCell ⟨X, 3, none⟩ (.int .i64 (g' : Int))).alloc (.cells #[.int .i64 (o' : Int), .int .i64 (t' : Int), .int .i64 (h' : Int), .int .i64 (g' : Int)] 29)) := by
        exact ((((hBX.setCell hXw _).setCell hXw _).setCell hXw _).setCell hXw _).alloc (by simpa [World.setCell] using hBX.size) _
      generalize (((((w5.setCell ⟨X, 0, none⟩ (.int .i64 (o' : Int))).setCell ⟨X, 1, none⟩ (.int .i64 (t' : Int))).setCell ⟨X, 2, none⟩ (.int .i64 (h' : Int))).setCell ⟨X, 3, none⟩ (.int .i64 (g' : Int))).alloc (.cells #[.int .i64 (o' : Int), .int .i64 (t' : Int), .int .i64 (h' : Int), .int .i64 (g' : Int)] 29)) = w6 at j1 j2 j3 ⊢
      have hc6 := HC5.out.kept (j1 R (Ne.symm hXR) hRlt)
      have hp6 := (j1 wr.heap.size hXP hlt5).trans HP5.out
      obtain ⟨y0, y1, y2⟩ := two_cells hp6
      have hX6 := (Array.getElem?_eq_some_iff.1 j2).1
      have HC6 := Lib.hid hc6
      have HX6 := Lib.hid j2
      have hs' := HS'.out
      have hw1 : IntKind.i64.wrap ((o' : Int) + (t' : Int)) = (o' : Int) + (t' : Int) := IntWalk.i64_in _ (by omega)
      have hw2 : IntKind.i64.wrap ((o' : Int) + (t' : Int) + (h' : Int)) = (N : Int) := by
        have : (o' : Int) + (t' : Int) + (h' : Int) = (N : Int) := by omega
        rw [this]; exact IntWalk.i64_in _ (by omega)
      clear j1 j2 hc6 hs' x0 x1 x2 x3 x4 p0 p1 p2 HX5 HP5 HC5 HX HC HS
      have hk4b : (kd.toNat : Int).tmod 4 = (kk : Int) := by rw [Int.tmod_eq_emod_of_nonneg (by omega)]; exact hk4
      have hk4c : IntKind.i64.wrap ((kd.toNat : Int).tmod 4) = (kk : Int) := by rw [hk4b]; exact IntWalk.i64_in _ (by omega)
      have hk4d : IntKind.u8.wrap ((kd.toNat : Int).tmod 4) = (kk : Int) := by rw [hk4b]; exact IntWalk.u8_in _ (by omega)
      have hk4e : IntKind.i64.wrap (kk : Int) = (kk : Int) := IntWalk.i64_in _ (by omega)
      obtain ⟨v0, v1, v2, v3, -⟩ := four_cells HX6.out
      have K6 : Hid (w6.drew.cell? ⟨X, 0, none⟩ = some (.int .i64 (o' : Int)) ∧ w6.drew.cell? ⟨X, 1, none⟩ = some (.int .i64 (t' : Int)) ∧ w6.drew.cell? ⟨X, 2, none⟩ = some (.int .i64 (h' : Int)) ∧ w6.drew.cell? ⟨X, 3, none⟩ = some (.int .i64 (g' : Int)) ∧ w6.drew.cell? ⟨wr.heap.size, 0, none⟩ = some (.int .u8 (kd.toNat : Int)) ∧ w6.drew.cell? ⟨wr.heap.size, 1, none⟩ = some (.int .i64 on)) := Lib.hid ⟨v0, v1, v2, v3, y0, y1⟩
      have HP6 := Lib.hid hp6
      have hP6 := (Array.getElem?_eq_some_iff.1 hp6).1
      clear hp6
      go_region_held3 (fun w' => w'.cell? ⟨X, 0, none⟩ = some (.int .i64 (o' : Int)) ∧ w'.cell? ⟨X, 1, none⟩ = some (.int .i64 (t' : Int)) ∧ w'.cell? ⟨X, 2, none⟩ = some (.int .i64 (h' : Int)) ∧ w'.cell? ⟨X, 3, none⟩ = some (.int .i64 (g' : Int)) ∧ w'.cell? ⟨wr.heap.size, 0, none⟩ = some (.int .u8 (kd.toNat : Int)) ∧ w'.cell? ⟨wr.heap.size, 1, none⟩ = some (.int .i64 on))
        (first | exact K6.out | exact K7.out)
        (first
        | (go_at_call 10; refine Calls.mono (HACT.out w6.drew (HC6.out.kept rfl)) ?_; rintro e w7 ⟨rfl, hc7, s7⟩; have HC7 := Lib.hid hc7; have HS7 := Lib.hid s7; have HX7 := Lib.hid ((s7.block X hX6 hXR).trans HX6.out); have K7 := Lib.hid (cells6 ((s7.block X hX6 hXR).trans HX6.out) ((s7.block wr.heap.size hP6 hRP).trans HP6.out)); clear hc7 s7)
        | (go_at_call 11; refine (open_any w7 R _ _ _ _ HC7.out).mono ?_; rintro e w8 ⟨rfl, rfl⟩)
        | (go_at_call 12; refine (taken_any w7 R _ _ _ _ HC7.out).mono ?_; rintro e w8 ⟨rfl, rfl⟩)
        | (go_at_call 13; refine (held_any w7 R _ _ _ _ HC7.out).mono ?_; rintro e w8 ⟨rfl, rfl⟩)
        | (go_at_call 14; refine (grants_any w7 R _ _ _ _ HC7.out).mono ?_; rintro e w8 ⟨rfl, rfl⟩))
      clear hw1 hw2 hk4b hk4c hk4d hk4e
      go_wp2_with fail
      go_roundw
      case rel => exact ⟨k + 1, o', t', h', g', by go_num, by omega, HS'.out, hgk, HC7.out, HX7.out, HS7.out.below j3.drew hRw j3.size⟩
      case measure => simp [intOf]; omega
    · have hlt' : ¬ ((k : Int) < (os.length : Int)) := by omega
      clear hc hx hsum
      go_wp2_with fail
      go_ret
      exact ⟨rfl, hB⟩

end Go.Proofs.Ytabikfckmjfllaa
