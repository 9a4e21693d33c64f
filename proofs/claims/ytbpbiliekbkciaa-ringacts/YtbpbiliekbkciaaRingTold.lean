/- The law's helpers told and long. -/
import Derived.Test.YtbpbiliekbkciaaRingSpans
import Derived.Test.YtbpbiliekbkciaaRingRef
namespace Go.Proofs.Ytbpbiliekbkciaa
open Go.ChangeShapes Go.WideShapes Go.ChangeAt Go.RowKit
set_option linter.unusedVariables false

theorem same_true (w : World) (p q : Option Addr) (l c m d : Nat) (xs : List UInt8) (hx : RD w (.slice p l c) xs) (hy : RD w (.slice q m d) xs) :
    Calls Try.prog 15 #[.slice p l c, .slice q m d] w fun e w' => e = .returned (.bool true) ∧ ∃ m, w' = w.drewN m :=
  (same_any w p q l c m d xs xs hx hy).mono fun _ _ h => ⟨by rw [h.1]; simp, h.2⟩
theorem RD.cap {W : World} {p : Option Addr} {l c : Nat} {xs : List UInt8} (h : RD W (.slice p l c) xs) : xs.length ≤ c ∧ c ≤ maxLen := by
  obtain ⟨_, _, e, h1, h2, _⟩ := h
  cases e
  exact ⟨h1, h2⟩

set_option maxRecDepth 20000 in
set_option maxHeartbeats 1000000 in
theorem told_any (w : World) (R M N h k : Nat) (cs : List UInt8) (H : RingAt w R M N h k cs) (p : Option Addr) (l c : Nat) (hx : RD w (.slice p l c) (held cs h k)) :
    Calls Try.prog 11 #[.pointer (some ⟨R, 0, none⟩), refV N h (.slice p l c)] w fun e w' => e = .returned (.bool true) ∧ Below w.heap.size w w' := by
  have hlen : (held cs h k).length = k := held_len cs h k (by rw [H.len]; exact H.hh) (by rw [H.len]; exact H.hk)
  have h1 := hx.len
  rw [hlen] at h1
  subst h1
  have hc : l ≤ c := by have := hx.cap.1; omega
  have hk := H.hk
  have hh := H.hh
  have hN := H.hN
  have HX := Lib.hid hx
  have HH := Lib.hid H
  have HL := Lib.hid hlen
  clear hx H hlen
  unfold refV
  go_enter Try.func11, Try.ntmps11
  go_wp2_with fail
  obtain ⟨w0, hw0⟩ : ∃ w0, w.alloc (.cells #[.int .i64 (N : Int), .int .i64 (h : Int), .slice p l c] 31) = w0 := ⟨_, rfl⟩
  have b0 : Below w.heap.size w w0 := by rw [← hw0]; exact (Below.refl _ w).alloc (Nat.le_refl _) _
  have e0 : w0.heap[w.heap.size]? = some (.cells #[.int .i64 (N : Int), .int .i64 (h : Int), .slice p l c] 31 (0, 0)) := by rw [← hw0]; exact World.alloc_heap_new w _
  have s0 : w0.heap.size = w.heap.size + 1 := by rw [← hw0]; simp
  rw [hw0]
  refine (spans_any w0 R M N h l cs (HH.out.below b0)).mono ?_
  rintro e w1 ⟨v1, v2, A, B, rfl, hAB, hlA, r1, r2, -, -, b1⟩
  have e1 := (b1.block _ (by omega)).trans e0
  obtain ⟨x0, x1, x2, x3⟩ := three_cells e1
  have B1 : Below w.heap.size w w1 := b0.trans (b1.mono b0.size)
  have hfi := first_any w1 N h p l c (held cs h l) (HX.out.below B1) hh hN
  rw [HL.out] at hfi
  unfold refV at hfi
  obtain ⟨p1, c1, rfl, _⟩ := id r1
  obtain ⟨p2, c2, rfl, _⟩ := id r2
  obtain ⟨f, hf⟩ : ∃ f, min l (N - h) = f := ⟨_, rfl⟩
  rw [hf] at hfi hlA
  have HR1 := Lib.hid r1
  have HR2 := Lib.hid r2
  have HE1 := Lib.hid e1
  have HAB := Lib.hid hAB
  have HLA := Lib.hid hlA
  have hfl : f ≤ l := by omega
  clear hw0 e0 r1 r2 e1 hAB hlA hf
  go_wp2_with fail
  refine hfi.mono ?_
  clear hfi
  rintro e w2 ⟨rfl, b2⟩
  have z1 := B1.size
  have z1' := b1.size
  obtain ⟨y0, y1, y2, y3⟩ := three_cells ((b2.block _ (by omega)).trans HE1.out)
  have R2 := HH.out.below (B1.trans (b2.mono B1.size))
  have hcA := cut_h p l c f (by omega)
  have hcB := cut_l p l c f (by omega)
  have X2 := HX.out.below (B1.trans (b2.mono B1.size))
  have pA := X2.part (i := 0) (j := f) (m := c) (Nat.zero_le _) (by rw [HL.out]; exact hfl) (by omega) (Nat.le_refl _)
  have pB := X2.part (i := f) (j := l) (m := c) hfl (by rw [HL.out]; exact Nat.le_refl _) hc (Nat.le_refl _)
  have eA : (List.drop 0 (List.take f (held cs h l))) = A := by rw [List.drop_zero, ← HAB.out, ← HLA.out, List.take_left]
  have eB : (List.drop f (List.take l (held cs h l))) = B := by
    rw [List.take_of_length_le (by rw [HL.out]; exact Nat.le_refl _), ← HAB.out, ← HLA.out, List.drop_left]
  rw [eA] at pA
  rw [eB] at pB
  obtain ⟨pa, la, ca, ea⟩ : ∃ q l' c', sliced p 0 f c 1 = .slice q l' c' := ⟨_, _, _, rfl⟩
  obtain ⟨pb, lb, cb, eb⟩ : ∃ q l' c', sliced p f l c 1 = .slice q l' c' := ⟨_, _, _, rfl⟩
  rw [ea] at hcA pA
  rw [eb] at hcB pB
  have r1' := HR1.out.below b2
  have r2' := HR2.out.below b2
  have C1 := fun n => len_any (w2.drewN n) R M N h l cs (R2.drewN n)
  have C2 := fun n => free_any (w2.drewN n) R M N h l cs (R2.drewN n)
  have C3 := fun n => head_any (w2.drewN n) R M N h l cs (R2.drewN n)
  have C4 := fun n => same_true (w2.drewN n) p1 pa A.length c1 la ca A (r1'.drewN n) (pA.drewN n)
  have C5 := fun n => same_true (w2.drewN n) p2 pb B.length c2 lb cb B (r2'.drewN n) (pB.drewN n)
  have K1 := Lib.hid C1
  have K2 := Lib.hid C2
  have K3 := Lib.hid C3
  have K4 := Lib.hid C4
  have K5 := Lib.hid C5
  have BZ := B1.trans (b2.mono B1.size)
  have hle : (f : Int) ≤ (l : Int) := by omega
  have hsub : (N : Int) - (l : Int) = ((N - l : Nat) : Int) := by omega
  have hwsub : IntKind.i64.wrap ((N - l : Nat) : Int) = ((N - l : Nat) : Int) := IntWalk.i64_in _ (by omega)
  clear C1 C2 C3 C4 C5 ea eb eA eB pA pB r1' r2' X2 R2 HX HH HR1 HR2 HE1 HAB HLA HL x0 x1 x2 x3 b0 b1 b2
  go_wp2_with fail
  go_quiet (first
    | (go_at_call 20; exact Calls.quiet_of_same ((K1.out _).mono fun _ _ h => ⟨h.1, h.2.symm⟩))
    | (go_at_call 21; exact Calls.quiet_of (K2.out _))
    | (go_at_call 24; exact Calls.quiet_of_same ((K3.out _).mono fun _ _ h => ⟨h.1, h.2.symm⟩))
    | (go_at_call_of 15 c1; exact Calls.quiet_of (K4.out _))
    | (go_at_call_of 15 c2; exact Calls.quiet_of (K5.out _)))
  go_wp2_with fail
  go_ret
  exact ⟨rfl, ⟨BZ.os, BZ.tape, BZ.output, BZ.size, BZ.block⟩⟩

/-- A call of the list. -/
structure OpV where
  kind : UInt8
  pb : Option Addr
  lb : Nat
  cb : Nat
  bs : List UInt8
  n : Int
/-- The list of calls in memory. -/
def OpsAt (W : World) (p : Option Addr) (os : List OpV) : Prop :=
  ∀ i o, os[i]? = some o → ∃ ad, p = some ad ∧ W.cell? (ad.add (i * 3)) = some (.int .u8 (o.kind.toNat : Int)) ∧ W.cell? ⟨(ad.add (i * 3)).block, (ad.add (i * 3)).off + 1, none⟩ = some (.slice o.pb o.lb o.cb) ∧ W.cell? ⟨(ad.add (i * 3)).block, (ad.add (i * 3)).off + 2, none⟩ = some (.int .i64 o.n) ∧ RD W (.slice o.pb o.lb o.cb) o.bs
theorem OpsAt.below {W W' : World} {p : Option Addr} {os : List OpV} (h : OpsAt W p os) (hb : Below W.heap.size W W') : OpsAt W' p os := fun i o hi => by
  obtain ⟨ad, rfl, h1, h2, h3, h4⟩ := h i o hi
  exact ⟨ad, rfl, (hb.cell (World.block_lt_of_cell? W _ h1)).trans h1, (hb.cell (World.block_lt_of_cell? W _ h2)).trans h2, (hb.cell (World.block_lt_of_cell? W _ h3)).trans h3, h4.below hb⟩

theorem long_any (w : World) (p : Option Addr) (c : Nat) (os : List OpV) (hO : OpsAt w p os) (hl : os.length ≤ 9223372036854775807) :
    Calls Try.prog 9 #[.slice p os.length c] w fun e w' => (e = .returned (.bool false) ∨ e = .returned (.bool true)) ∧ Below w.heap.size w w' := by
  have HO := Lib.hid hO
  clear hO
  have hl' : (os.length : Int) ≤ 9223372036854775807 := by omega
  go_enter Try.func9, Try.ntmps9
  go_wp2_with fail
  go_loopw [3, 8] (fun z i wr => ∃ (n : Nat) (s : Int), i = .int .i64 (n : Int) ∧ z = .int .i64 s ∧ n ≤ os.length ∧ Below w.heap.size w wr) (fun _ i _ => os.length - (intOf i).toNat)
  case atStart => exact ⟨0, 0, rfl, rfl, Nat.zero_le _, Below.refl _ _⟩
  case round =>
    obtain ⟨n, s, rfl, rfl, hn, hB⟩ := hrel
    by_cases hlt : n < os.length
    · have hlt' : (n : Int) < (os.length : Int) := by omega
      obtain ⟨ad, rfl, e1, e2, e3, e4⟩ := HO.out.below hB n _ (List.getElem?_eq_getElem hlt)
      generalize os[n] = o at e1 e2 e3 e4
      clear e4
      go_wp2_with fail
      go_roundw
      case rel => exact ⟨n + 1, _, by go_num, rfl, by omega, hB.alloc hB.size _⟩
      case measure => simp [intOf]; omega
    · have hlt' : ¬ ((n : Int) < (os.length : Int)) := by omega
      by_cases hs : 500 < s
      · go_wp2_with fail
        go_ret
        exact ⟨.inr rfl, hB⟩
      · by_cases ht : (20 : Int) < (os.length : Int)
        · go_wp2_with fail
          go_ret
          exact ⟨.inr (by simp), hB⟩
        · go_wp2_with fail
          go_ret
          exact ⟨.inl (by simp), hB⟩

end Go.Proofs.Ytbpbiliekbkciaa
