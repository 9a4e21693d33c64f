/- The law RingActs. -/
import Derived.Test.YtbpbiliekbkciaaRingWalked
import Derived.Test.YtbpbiliekbkciaaRingTold
import Derived.Test.YtbpbiliekbkciaaRingRead
import Derived.Test.YtbpbiliekbkciaaRingOwn
namespace Go.Proofs.Ytbpbiliekbkciaa
open Go.ChangeShapes Go.WideShapes Go.ChangeAt Go.RowKit
set_option linter.unusedVariables false

/-- The ring, and the document's ring at block X, hold the same. -/
structure ActW (w wr : World) (R M N X h k : Nat) (cs : List UInt8) (p : Option Addr) (l c : Nat) : Prop where
  ring : RingAt wr R M N h k cs
  box : wr.heap[X]? = some (.cells #[.int .i64 (N : Int), .int .i64 (h : Int), .slice p l c] 31 (0, 0))
  rd : RD wr (.slice p l c) (held cs h k)
  own : held cs h k ≠ [] → ∀ g, (Value.slice p l c).ownBlock = some g → g ≠ R ∧ g ≠ M ∧ g ≠ X
  bel : Below w.heap.size w wr
theorem ActW.below {w wr W : World} {R M N X h k : Nat} {cs : List UInt8} {p : Option Addr} {l c : Nat} (H : ActW w wr R M N X h k cs p l c) (hb : Below wr.heap.size wr W) : ActW w W R M N X h k cs p l c :=
  ⟨H.ring.below hb, (hb.block _ (Array.getElem?_eq_some_iff.1 H.box).1).trans H.box, H.rd.below hb, H.own, H.bel.trans (hb.mono H.bel.size)⟩
/-- The document's ring is laid anew. -/
theorem act_store {w W : World} {R M N X h k : Nat} {cs : List UInt8} {p : Option Addr} {l c : Nat} {a b d : Value} (hr : RingAt W R M N h k cs) (hX : W.heap[X]? = some (.cells #[a, b, d] 31 (0, 0)))
    (hv : RD W (.slice p l c) (held cs h k)) (hg : held cs h k ≠ [] → ∀ g, (Value.slice p l c).ownBlock = some g → g ≠ R ∧ g ≠ M ∧ g ≠ X) (hXR : X ≠ R) (hXM : X ≠ M) (hb : Below w.heap.size w W) (hXw : w.heap.size ≤ X) :
    ActW w (((W.setCell ⟨X, 0, none⟩ (.int .i64 (N : Int))).setCell ⟨X, 1, none⟩ (.int .i64 (h : Int))).setCell ⟨X, 2, none⟩ (.slice p l c)) R M N X h k cs p l c := by
  have hO : ∀ r, r ≠ X → (((W.setCell ⟨X, 0, none⟩ (.int .i64 (N : Int))).setCell ⟨X, 1, none⟩ (.int .i64 (h : Int))).setCell ⟨X, 2, none⟩ (.slice p l c)).heap[r]? = W.heap[r]? := fun r hr =>
    (Below.heap_setCell _ _ _ _ hr).trans ((Below.heap_setCell _ _ _ _ hr).trans (Below.heap_setCell _ _ _ _ hr))
  refine ⟨hr.kept (hO R (Ne.symm hXR)) (hO M (Ne.symm hXM)), heap_set _ (heap_set _ (heap_set _ hX)), hv.keep (fun hne g hgg => hO g (hg hne g hgg).2.2), hg, ((hb.setCell hXw _).setCell hXw _).setCell hXw _⟩

set_option maxRecDepth 20000 in
set_option maxHeartbeats 4000000 in
theorem acts_walk (q : Int) (q0 : -9223372036854775808 ≤ q) (q1 : q ≤ 9223372036854775807) (p0 : Option Addr) (c0 : Nat) (os : List OpV) (w : World) (hO : OpsAt w p0 os) (hl : os.length ≤ 9223372036854775807) (hon : ∀ o ∈ os, -9223372036854775808 ≤ o.n ∧ o.n ≤ 9223372036854775807) :
    Calls Try.prog 3 #[.int .i64 q, .slice p0 os.length c0] w fun e w' => e = .returned (.bool true) ∧ Below w.heap.size w w' := by
  have HO := Lib.hid hO
  have HON := Lib.hid hon
  clear hO hon
  go_enter Try.func3, Try.ntmps3
  go_wp2_with (go_at_call 8; refine (wakes_any _).mono ?_; rintro e w1 ⟨rfl, b1⟩)
  refine (long_any w1 p0 c0 os (HO.out.below b1) hl).mono ?_
  rintro e w2 ⟨hb, b2⟩
  have B2 : Below w.heap.size w w2 := b1.trans (b2.mono b1.size)
  clear b1 b2
  rcases hb with rfl | rfl
  · by_cases hq : q < 1 ∨ 65536 < q
    · have HB := Lib.hid (new_bad w2 q hq)
      rcases hq with hq | hq
      · have h5 : ¬ (500 < q) := by omega
        go_wp2_with fail
        refine HB.out.mono ?_
        rintro e w3 ⟨rfl, rfl⟩
        go_wp2_with fail
        go_ret
        exact ⟨rfl, B2⟩
      · have h5 : 500 < q := by omega
        have h6 : ¬ (q ≤ 65536) := by omega
        have h7 : ¬ (q < 1) := by omega
        go_wp2_with fail
        refine HB.out.mono ?_
        rintro e w3 ⟨rfl, rfl⟩
        go_wp2_with fail
        go_ret
        exact ⟨rfl, B2⟩
    · by_cases hq5 : 500 < q
      · have h6 : q ≤ 65536 := by omega
        clear hq
        go_wp2_with fail
        go_ret
        exact ⟨rfl, B2⟩
      · obtain ⟨N, rfl⟩ : ∃ N : Nat, q = (N : Int) := ⟨q.toNat, by omega⟩
        have hN1 : 1 ≤ N := by omega
        have hN2 : N ≤ 500 := by omega
        clear hq q0 q1
        go_wp2_with fail
        refine (new_any w2 N hN1 (by omega)).mono ?_
        rintro e w3 ⟨R, M, rfl, hr3, hR, hM, b3⟩
        have B3 : Below w.heap.size w w3 := B2.trans (b3.mono B2.size)
        have hRw : w.heap.size ≤ R := Nat.le_trans B2.size hR
        have hMw : w.heap.size ≤ M := Nat.le_trans B2.size hM
        have hl3 := hr3.lt
        have HR3 := Lib.hid hr3
        clear hr3
        go_wp2_with fail
        obtain ⟨W3, hW3⟩ : ∃ W3, w3.alloc (.cells #[.int .i64 (N : Int), .int .i64 0, .slice none 0 0] 31) = W3 := ⟨_, rfl⟩
        have hA3 : ActW w W3 R M N w3.heap.size 0 0 (List.replicate N 0) none 0 0 := by
          have hz : held (List.replicate N (0 : UInt8)) 0 0 = [] := held_zero _ _ (by simp; omega)
          rw [← hW3]
          exact ⟨HR3.out.alloc _, World.alloc_heap_new w3 _, by rw [hz]; exact RD.nil _, fun h => (h hz).elim, B3.alloc B3.size _⟩
        rw [hW3]
        refine (told_any W3 R M N 0 0 _ hA3.ring none 0 0 hA3.rd).mono ?_
        rintro e w4 ⟨rfl, b4⟩
        have HA4 := Lib.hid (hA3.below b4)
        obtain ⟨X, hX⟩ : ∃ X, w3.heap.size = X := ⟨_, rfl⟩
        have hXR : X ≠ R := by omega
        have hXM : X ≠ M := by omega
        have hXw : w.heap.size ≤ X := by have := B3.size; omega
        rw [hX] at HA4 ⊢
        clear hA3 HR3 hR hM b3 B3 B2 hl3 hX hW3 b4
        go_wp2_with fail
        go_loopw [63] (fun i wr => ∃ (n h k : Nat) (cs : List UInt8) (p : Option Addr) (l c : Nat), i = .int .i64 (n : Int) ∧ n ≤ os.length ∧ ActW w wr R M N X h k cs p l c) (fun i _ => os.length - (intOf i).toNat)
        case atStart => exact ⟨0, _, _, _, _, _, _, rfl, Nat.zero_le _, HA4.out⟩
        case round =>
          clear HA4
          obtain ⟨n, h, k, cs, p, l, c, rfl, hn, hA⟩ := hrel
          have hl' : (os.length : Int) ≤ 9223372036854775807 := by omega
          by_cases hlt : n < os.length
          · have hlt' : (n : Int) < (os.length : Int) := by omega
            obtain ⟨ad', -, -, -, -, e4⟩ := HO.out n _ (List.getElem?_eq_getElem hlt)
            obtain ⟨ad, rfl, e1, e2, e3, -⟩ := HO.out.below hA.bel n _ (List.getElem?_eq_getElem hlt)
            have eo := HON.out _ (List.getElem_mem hlt)
            have ebk : ∀ g, (Value.slice os[n].pb os[n].lb os[n].cb).ownBlock = some g → os[n].bs ≠ [] → g < w.heap.size := fun g hg hne => by
              obtain ⟨_, _, _, _, _, h4⟩ := HO.out n _ (List.getElem?_eq_getElem hlt)
              obtain ⟨g', e1, e2⟩ := h4.lt hne
              rw [hg] at e1
              cases e1
              exact e2
            generalize os[n] = o at e1 e2 e3 e4 eo ebk
            obtain ⟨kd, pb, lb, cb, bs, on⟩ := o
            simp only at e1 e2 e3 e4 eo ebk
            have hlen : (held cs h k).length = k := held_len cs h k (by rw [hA.ring.len]; exact hA.ring.hh) (by rw [hA.ring.len]; exact hA.ring.hk)
            have hlb := e4.len
            subst hlb
            have hll := hA.rd.len
            rw [hlen] at hll
            subst hll
            obtain ⟨x0, x1, x2, x3⟩ := three_cells hA.box
            have hlX := (Array.getElem?_eq_some_iff.1 hA.box).1
            have hrl := hA.ring.lt
            have hhN := hA.ring.hh
            have hkN := hA.ring.hk
            have HA := Lib.hid hA
            have E4 := Lib.hid e4
            have EBK := Lib.hid ebk
            have HLN := Lib.hid hlen
            clear hA e4 ebk hlen
            obtain ⟨kk, hkk⟩ : ∃ kk : Nat, kd.toNat % 5 = kk := ⟨_, rfl⟩
            have hk5 : (kd.toNat : Int) % 5 = (kk : Int) := by omega
            have hkl : kk < 5 := by omega
            clear hkk
            match kk, hkl with
            | 0, _ =>
              go_wp2_with fail
              obtain ⟨wa, hwa⟩ : ∃ wa, wr.alloc (.cells #[.int .u8 (kd.toNat : Int), .slice pb bs.length cb, .int .i64 on] 34) = wa := ⟨_, rfl⟩
              have ba : Below wr.heap.size wr wa := by rw [← hwa]; exact (Below.refl _ wr).alloc (Nat.le_refl _) _
              have sa : wa.heap.size = wr.heap.size + 1 := by rw [← hwa]; simp
              have eoa : wa.heap[wr.heap.size]? = some (.cells #[.int .u8 (kd.toNat : Int), .slice pb bs.length cb, .int .i64 on] 34 (0, 0)) := by rw [← hwa]; exact World.alloc_heap_new wr _
              have hAa := HA.out.below ba
              rw [hwa]
              clear hwa ba

              have hw := rwrite_any wa N h p pb l c bs.length cb (held cs h l) bs hAa.rd (E4.out.below hAa.bel) (by omega) (by rw [HLN.out]; exact hkN)
              rw [HLN.out] at hw
              unfold refV at hw
              obtain ⟨m, hm⟩ : ∃ m, min bs.length (N - l) = m := ⟨_, rfl⟩
              rw [hm] at hw
              have HM := Lib.hid hm
              clear hm
              refine hw.mono ?_
              clear hw
              rintro e w5 ⟨v5, rfl, hv5, hf5, b5⟩
              obtain ⟨p5, c5, rfl, -⟩ := id hv5
              obtain ⟨l5, hl5⟩ : ∃ l5, (held cs h l ++ List.take m bs).length = l5 := ⟨_, rfl⟩
              rw [hl5] at hv5 hf5 ⊢
              have HV5 := Lib.hid hv5
              have HF5 := Lib.hid hf5
              clear hv5 hf5 hl5

              have z5 := b5.size
              have eo5 := (b5.block _ (by omega)).trans eoa
              obtain ⟨o0, o1, o2, -⟩ := three_cells eo5
              have hlt5 : wr.heap.size < w5.heap.size := by omega
              have hltX : X < w5.heap.size := by omega
              have hA5 := hAa.below b5
              obtain ⟨v0, v1, v2, v3⟩ := three_cells hA5.box
              have HA5 := Lib.hid hA5
              clear hA5 hAa eo5 eoa b5 x0 x1 x2 x3
              go_wp2_with fail

              obtain ⟨w6, hw6⟩ : ∃ w6, w5.alloc (.cells #[.int .i64 (N : Int), .int .i64 (h : Int), .slice p5 l5 c5] 31) = w6 := ⟨_, rfl⟩
              have y6 : w6.heap[w5.heap.size]? = some (.cells #[.int .i64 (N : Int), .int .i64 (h : Int), .slice p5 l5 c5] 31 (0, 0)) := by rw [← hw6]; exact World.alloc_heap_new w5 _

              have b6 : Below w5.heap.size w5 w6 := by rw [← hw6]; exact (Below.refl _ w5).alloc (Nat.le_refl _) _
              have z6 := b6.size
              have A6 := HA5.out.below b6

              have hw7 := write_any w6 R M N h l cs A6.ring pb bs.length cb bs (E4.out.below A6.bel) (fun hne e => by have := EBK.out M e hne; omega)
              rw [HM.out] at hw7
              rw [hw6]
              clear hw6
              refine hw7.mono ?_
              clear hw7
              rintro e w7 ⟨rfl, ⟨cs7, hr7, hh7⟩, o7⟩
              have hY : w5.heap.size < w6.heap.size := (Array.getElem?_eq_some_iff.1 y6).1
              obtain ⟨s0, s1, s2, s3⟩ := three_cells ((o7.block _ hY (by omega) (by omega)).trans y6)
              have bx7 := (o7.block X (by omega) hXR hXM).trans A6.box
              obtain ⟨t0, t1, t2, t3⟩ := three_cells bx7
              have hv7 : RD w7 (.slice p5 l5 c5) (held cs7 h (l + m)) := by
                rw [hh7]
                exact o7.rd (HV5.out.below b6) (fun e => by have := HF5.out R e; omega) (fun e => by have := HF5.out M e; omega)
              have hact := act_store (w := w) (X := X) hr7 bx7 hv7 (fun _ g hg => by have := HF5.out g hg; omega) hXR hXM (o7.below A6.bel hRw hMw A6.bel.size) hXw
              have HAC := Lib.hid hact
              have HT := Lib.hid (told_any _ R M N h (l + m) cs7 hact.ring p5 l5 c5 hact.rd)
              unfold refV at HT
              clear hact hv7 hr7 hh7 o7 bx7 y6 A6 b6
              go_wp2_with fail

              refine HT.out.mono ?_
              rintro e w9 ⟨rfl, b9⟩
              have HA9 := Lib.hid (HAC.out.below b9)
              clear HT HAC b9
              go_wp2_with fail
              go_roundw
              case rel => exact ⟨n + 1, _, _, _, _, _, _, by go_num, by omega, HA9.out⟩
              case measure => simp [intOf]; omega
            | 1, _ =>
              go_wp2_with fail
              obtain ⟨wa, hwa⟩ : ∃ wa, wr.alloc (.cells #[.int .u8 (kd.toNat : Int), .slice pb bs.length cb, .int .i64 on] 34) = wa := ⟨_, rfl⟩
              have ba : Below wr.heap.size wr wa := by rw [← hwa]; exact (Below.refl _ wr).alloc (Nat.le_refl _) _
              have sa : wa.heap.size = wr.heap.size + 1 := by rw [← hwa]; simp
              have eoa : wa.heap[wr.heap.size]? = some (.cells #[.int .u8 (kd.toNat : Int), .slice pb bs.length cb, .int .i64 on] 34 (0, 0)) := by rw [← hwa]; exact World.alloc_heap_new wr _
              have hAa := HA.out.below ba
              rw [hwa]
              clear hwa ba

              have hw := rwrite_any wa N h p pb l c bs.length cb (held cs h l) bs hAa.rd (E4.out.below hAa.bel) (by omega) (by rw [HLN.out]; exact hkN)
              rw [HLN.out] at hw
              unfold refV at hw
              obtain ⟨m, hm⟩ : ∃ m, min bs.length (N - l) = m := ⟨_, rfl⟩
              rw [hm] at hw
              have HM := Lib.hid hm
              clear hm
              refine hw.mono ?_
              clear hw
              rintro e w5 ⟨v5, rfl, hv5, hf5, b5⟩
              obtain ⟨p5, c5, rfl, -⟩ := id hv5
              obtain ⟨l5, hl5⟩ : ∃ l5, (held cs h l ++ List.take m bs).length = l5 := ⟨_, rfl⟩
              rw [hl5] at hv5 hf5 ⊢
              have HV5 := Lib.hid hv5
              have HF5 := Lib.hid hf5
              clear hv5 hf5 hl5

              have z5 := b5.size
              have eo5 := (b5.block _ (by omega)).trans eoa
              obtain ⟨o0, o1, o2, -⟩ := three_cells eo5
              have hlt5 : wr.heap.size < w5.heap.size := by omega
              have hltX : X < w5.heap.size := by omega
              have hA5 := hAa.below b5
              obtain ⟨v0, v1, v2, v3⟩ := three_cells hA5.box
              have HA5 := Lib.hid hA5
              clear hA5 hAa eo5 eoa b5 x0 x1 x2 x3
              go_wp2_with fail

              obtain ⟨w6, hw6⟩ : ∃ w6, w5.alloc (.cells #[.int .i64 (N : Int), .int .i64 (h : Int), .slice p5 l5 c5] 31) = w6 := ⟨_, rfl⟩
              have y6 : w6.heap[w5.heap.size]? = some (.cells #[.int .i64 (N : Int), .int .i64 (h : Int), .slice p5 l5 c5] 31 (0, 0)) := by rw [← hw6]; exact World.alloc_heap_new w5 _

              have b6 : Below w5.heap.size w5 w6 := by rw [← hw6]; exact (Below.refl _ w5).alloc (Nat.le_refl _) _
              have z6 := b6.size
              have A6 := HA5.out.below b6

              have hw7 := write_any w6 R M N h l cs A6.ring pb bs.length cb bs (E4.out.below A6.bel) (fun hne e => by have := EBK.out M e hne; omega)
              rw [HM.out] at hw7
              rw [hw6]
              clear hw6
              refine hw7.mono ?_
              clear hw7
              rintro e w7 ⟨rfl, ⟨cs7, hr7, hh7⟩, o7⟩
              have hY : w5.heap.size < w6.heap.size := (Array.getElem?_eq_some_iff.1 y6).1
              obtain ⟨s0, s1, s2, s3⟩ := three_cells ((o7.block _ hY (by omega) (by omega)).trans y6)
              have bx7 := (o7.block X (by omega) hXR hXM).trans A6.box
              obtain ⟨t0, t1, t2, t3⟩ := three_cells bx7
              have hv7 : RD w7 (.slice p5 l5 c5) (held cs7 h (l + m)) := by
                rw [hh7]
                exact o7.rd (HV5.out.below b6) (fun e => by have := HF5.out R e; omega) (fun e => by have := HF5.out M e; omega)
              have hact := act_store (w := w) (X := X) hr7 bx7 hv7 (fun _ g hg => by have := HF5.out g hg; omega) hXR hXM (o7.below A6.bel hRw hMw A6.bel.size) hXw
              have HAC := Lib.hid hact
              have HT := Lib.hid (told_any _ R M N h (l + m) cs7 hact.ring p5 l5 c5 hact.rd)
              unfold refV at HT
              clear hact hv7 hr7 hh7 o7 bx7 y6 A6 b6
              go_wp2_with fail

              refine HT.out.mono ?_
              rintro e w9 ⟨rfl, b9⟩
              have HA9 := Lib.hid (HAC.out.below b9)
              clear HT HAC b9
              go_wp2_with fail
              go_roundw
              case rel => exact ⟨n + 1, _, _, _, _, _, _, by go_num, by omega, HA9.out⟩
              case measure => simp [intOf]; omega
            | 2, _ =>
              go_wp2_with fail
              obtain ⟨wa, hwa⟩ : ∃ wa, wr.alloc (.cells #[.int .u8 (kd.toNat : Int), .slice pb bs.length cb, .int .i64 on] 34) = wa := ⟨_, rfl⟩
              have ba : Below wr.heap.size wr wa := by rw [← hwa]; exact (Below.refl _ wr).alloc (Nat.le_refl _) _
              have sa : wa.heap.size = wr.heap.size + 1 := by rw [← hwa]; simp
              have eoa : wa.heap[wr.heap.size]? = some (.cells #[.int .u8 (kd.toNat : Int), .slice pb bs.length cb, .int .i64 on] 34 (0, 0)) := by rw [← hwa]; exact World.alloc_heap_new wr _
              have hAa := HA.out.below ba
              rw [hwa]
              clear hwa ba

              have hw := rread_any wa N h p l c on (held cs h l) hAa.rd (by omega) hhN (by rw [HLN.out]; exact hkN)
              rw [HLN.out] at hw
              unfold refV at hw
              obtain ⟨u, hu⟩ : ∃ u, upTo on l = u := ⟨_, rfl⟩
              rw [hu] at hw
              have hul : u ≤ l := by rw [← hu]; unfold upTo; omega
              have HU := Lib.hid hu
              clear hu
              have hcl := HA.out.rd.cap.1
              rw [HLN.out] at hcl
              have rA := fun W (hW : RD W (.slice p l c) (held cs h l)) => hW.part (i := u) (j := l) (m := c) hul (by rw [HLN.out]; exact Nat.le_refl _) hcl (Nat.le_refl _)
              have rB := fun W (hW : RD W (.slice p l c) (held cs h l)) => hW.part (i := 0) (j := u) (m := c) (Nat.zero_le _) (by rw [HLN.out]; exact hul) (by omega) (Nat.le_refl _)
              have eqA : List.drop u (List.take l (held cs h l)) = held cs ((h + u) % N) (l - u) := by
                rw [List.take_of_length_le (by rw [HLN.out]; exact Nat.le_refl _)]
                have := held_drop cs h l u (by rw [HA.out.ring.len]; exact hhN) (by rw [HA.out.ring.len]; exact hkN) hul
                rwa [HA.out.ring.len] at this
              have eqB : List.drop 0 (List.take u (held cs h l)) = held cs h u := by
                rw [List.drop_zero]
                exact held_take cs h l u (by rw [HA.out.ring.len]; exact hhN) (by rw [HA.out.ring.len]; exact hkN) hul
              have blA : ∀ g, (sliced p u l c 1).ownBlock = some g → (Value.slice p l c).ownBlock = some g := fun g e => by
                obtain ⟨ad2, e1, e2⟩ := sliced_ownBlock e
                subst e1
                simpa [Value.ownBlock] using e2
              have blB : ∀ g, (sliced p 0 u c 1).ownBlock = some g → (Value.slice p l c).ownBlock = some g := fun g e => by
                obtain ⟨ad2, e1, e2⟩ := sliced_ownBlock e
                subst e1
                simpa [Value.ownBlock] using e2
              rw [eqA] at rA
              rw [eqB] at rB
              obtain ⟨pa, la, ca, ea⟩ : ∃ q l' c', sliced p u l c 1 = .slice q l' c' := ⟨_, _, _, rfl⟩
              obtain ⟨pz, lz, cz, ez⟩ : ∃ q l' c', sliced p 0 u c 1 = .slice q l' c' := ⟨_, _, _, rfl⟩
              rw [ea] at rA blA hw
              rw [ez] at rB blB hw
              have hne2 : held cs ((h + u) % N) (l - u) ≠ [] → held cs h l ≠ [] := fun h1 h2 => h1 (by rw [← eqA, h2]; simp)
              have RA := Lib.hid rA
              have RB := Lib.hid rB
              have BLA := Lib.hid blA
              have NE2 := Lib.hid hne2
              have BLB := Lib.hid blB
              obtain ⟨hd, hhd⟩ : ∃ hd, (h + u) % N = hd := ⟨_, rfl⟩
              rw [hhd] at RA NE2 hw
              have HHD := Lib.hid hhd
              clear rA rB blA blB hne2 eqA eqB ea ez hhd
              refine hw.mono ?_
              clear hw
              rintro e w5 ⟨rfl, b5⟩

              have z5 := b5.size
              have eo5 := (b5.block _ (by omega)).trans eoa
              obtain ⟨o0, o1, o2, -⟩ := three_cells eo5
              have hlt5 : wr.heap.size < w5.heap.size := by omega
              have hltX : X < w5.heap.size := by omega
              have hA5 := hAa.below b5
              obtain ⟨v0, v1, v2, v3⟩ := three_cells hA5.box
              have HA5 := Lib.hid hA5
              clear hA5 hAa eo5 eoa b5 x0 x1 x2 x3
              go_wp2_with fail

              obtain ⟨w6, hw6⟩ : ∃ w6, w5.alloc (.cells #[.int .i64 (N : Int), .int .i64 (hd : Int), .slice pa la ca] 31) = w6 := ⟨_, rfl⟩
              have y6 : w6.heap[w5.heap.size]? = some (.cells #[.int .i64 (N : Int), .int .i64 (hd : Int), .slice pa la ca] 31 (0, 0)) := by rw [← hw6]; exact World.alloc_heap_new w5 _

              have b6 : Below w5.heap.size w5 w6 := by rw [← hw6]; exact (Below.refl _ w5).alloc (Nat.le_refl _) _
              have z6 := b6.size
              have A6 := HA5.out.below b6

              have hw7 := read_any w6 R M N h l cs on A6.ring
              rw [HU.out, HHD.out] at hw7
              rw [hw6]
              clear hw6
              refine hw7.mono ?_
              clear hw7
              rintro e w7 ⟨v7, rfl, hv7, -, hr7, o7⟩
              have hY : w5.heap.size < w6.heap.size := (Array.getElem?_eq_some_iff.1 y6).1
              obtain ⟨s0, s1, s2, s3⟩ := three_cells ((o7.block _ hY (by omega) (by omega)).trans y6)
              have bx7 := (o7.block X (by omega) hXR hXM).trans A6.box
              obtain ⟨t0, t1, t2, t3⟩ := three_cells bx7
              obtain ⟨p7, c7, rfl, -⟩ := id hv7
              have A7 : ∀ W, Only R M w6 W → RD W (.slice pa la ca) (held cs hd (l - u)) := fun W hW => (RA.out w6 A6.rd).keep (fun hne g hg => by
                have h1 := A6.own (NE2.out hne) g (BLA.out g hg)
                obtain ⟨g', q1, q2⟩ := (RA.out w6 A6.rd).lt hne
                rw [hg] at q1
                cases q1
                exact hW.block g q2 h1.1 h1.2.1)
              have hsB : RD w7 (.slice pz lz cz) (held cs h u) := (RB.out w6 A6.rd).keep (fun hne g hg => by
                have hne3 : held cs h l ≠ [] := fun e => hne (by rw [← held_take cs h l u (by rw [A6.ring.len]; exact hhN) (by rw [A6.ring.len]; exact hkN) hul, e]; simp)
                have h1 := A6.own hne3 g (BLB.out g hg)
                obtain ⟨g', q1, q2⟩ := (RB.out w6 A6.rd).lt hne
                rw [hg] at q1
                cases q1
                exact o7.block g q2 h1.1 h1.2.1)
              obtain ⟨L7, hL7⟩ : ∃ L7, held cs h u = L7 := ⟨_, rfl⟩
              rw [hL7] at hv7 hsB ⊢
              have HSM := Lib.hid (same_true w7 p7 pz L7.length c7 lz cz L7 hv7 hsB)
              have hact := fun mm => act_store (w := w) (W := w7.drewN mm) (X := X) (hr7.drewN mm) bx7 ((A7 w7 o7).kept (fun _ _ => rfl)) (fun hne g hg => A6.own (NE2.out hne) g (BLA.out g hg)) hXR hXM ((o7.below A6.bel hRw hMw A6.bel.size).trans ⟨rfl, rfl, rfl, Nat.le_refl _, fun _ _ => rfl⟩) hXw
              have HACT := Lib.hid hact
              clear hact A7 hsB hv7 hr7 o7 bx7 y6 A6 b6 hL7
              go_wp2_with fail
              refine HSM.out.mono ?_
              rintro e w8 ⟨rfl, mm, rfl⟩
              have HAC := Lib.hid (HACT.out mm)
              have HT := Lib.hid (told_any _ R M N hd (l - u) cs HAC.out.ring pa la ca HAC.out.rd)
              unfold refV at HT
              clear HACT HSM
              go_wp2_with fail

              refine HT.out.mono ?_
              rintro e w9 ⟨rfl, b9⟩
              have HA9 := Lib.hid (HAC.out.below b9)
              clear HT HAC b9
              go_wp2_with fail
              go_roundw
              case rel => exact ⟨n + 1, _, _, _, _, _, _, by go_num, by omega, HA9.out⟩
              case measure => simp [intOf]; omega
            | 3, _ =>
              go_wp2_with fail
              obtain ⟨wa, hwa⟩ : ∃ wa, wr.alloc (.cells #[.int .u8 (kd.toNat : Int), .slice pb bs.length cb, .int .i64 on] 34) = wa := ⟨_, rfl⟩
              have ba : Below wr.heap.size wr wa := by rw [← hwa]; exact (Below.refl _ wr).alloc (Nat.le_refl _) _
              have sa : wa.heap.size = wr.heap.size + 1 := by rw [← hwa]; simp
              have eoa : wa.heap[wr.heap.size]? = some (.cells #[.int .u8 (kd.toNat : Int), .slice pb bs.length cb, .int .i64 on] 34 (0, 0)) := by rw [← hwa]; exact World.alloc_heap_new wr _
              have hAa := HA.out.below ba
              rw [hwa]
              clear hwa ba

              have hw := rread_any wa N h p l c on (held cs h l) hAa.rd (by omega) hhN (by rw [HLN.out]; exact hkN)
              rw [HLN.out] at hw
              unfold refV at hw
              obtain ⟨u, hu⟩ : ∃ u, upTo on l = u := ⟨_, rfl⟩
              rw [hu] at hw
              have hul : u ≤ l := by rw [← hu]; unfold upTo; omega
              have HU := Lib.hid hu
              clear hu
              have hcl := HA.out.rd.cap.1
              rw [HLN.out] at hcl
              have rA := fun W (hW : RD W (.slice p l c) (held cs h l)) => hW.part (i := u) (j := l) (m := c) hul (by rw [HLN.out]; exact Nat.le_refl _) hcl (Nat.le_refl _)
              have rB := fun W (hW : RD W (.slice p l c) (held cs h l)) => hW.part (i := 0) (j := u) (m := c) (Nat.zero_le _) (by rw [HLN.out]; exact hul) (by omega) (Nat.le_refl _)
              have eqA : List.drop u (List.take l (held cs h l)) = held cs ((h + u) % N) (l - u) := by
                rw [List.take_of_length_le (by rw [HLN.out]; exact Nat.le_refl _)]
                have := held_drop cs h l u (by rw [HA.out.ring.len]; exact hhN) (by rw [HA.out.ring.len]; exact hkN) hul
                rwa [HA.out.ring.len] at this
              have eqB : List.drop 0 (List.take u (held cs h l)) = held cs h u := by
                rw [List.drop_zero]
                exact held_take cs h l u (by rw [HA.out.ring.len]; exact hhN) (by rw [HA.out.ring.len]; exact hkN) hul
              have blA : ∀ g, (sliced p u l c 1).ownBlock = some g → (Value.slice p l c).ownBlock = some g := fun g e => by
                obtain ⟨ad2, e1, e2⟩ := sliced_ownBlock e
                subst e1
                simpa [Value.ownBlock] using e2
              have blB : ∀ g, (sliced p 0 u c 1).ownBlock = some g → (Value.slice p l c).ownBlock = some g := fun g e => by
                obtain ⟨ad2, e1, e2⟩ := sliced_ownBlock e
                subst e1
                simpa [Value.ownBlock] using e2
              rw [eqA] at rA
              rw [eqB] at rB
              obtain ⟨pa, la, ca, ea⟩ : ∃ q l' c', sliced p u l c 1 = .slice q l' c' := ⟨_, _, _, rfl⟩
              obtain ⟨pz, lz, cz, ez⟩ : ∃ q l' c', sliced p 0 u c 1 = .slice q l' c' := ⟨_, _, _, rfl⟩
              rw [ea] at rA blA hw
              rw [ez] at rB blB hw
              have hne2 : held cs ((h + u) % N) (l - u) ≠ [] → held cs h l ≠ [] := fun h1 h2 => h1 (by rw [← eqA, h2]; simp)
              have RA := Lib.hid rA
              have RB := Lib.hid rB
              have BLA := Lib.hid blA
              have NE2 := Lib.hid hne2
              have BLB := Lib.hid blB
              obtain ⟨hd, hhd⟩ : ∃ hd, (h + u) % N = hd := ⟨_, rfl⟩
              rw [hhd] at RA NE2 hw
              have HHD := Lib.hid hhd
              clear rA rB blA blB hne2 eqA eqB ea ez hhd
              refine hw.mono ?_
              clear hw
              rintro e w5 ⟨rfl, b5⟩

              have z5 := b5.size
              have eo5 := (b5.block _ (by omega)).trans eoa
              obtain ⟨o0, o1, o2, -⟩ := three_cells eo5
              have hlt5 : wr.heap.size < w5.heap.size := by omega
              have hltX : X < w5.heap.size := by omega
              have hA5 := hAa.below b5
              obtain ⟨v0, v1, v2, v3⟩ := three_cells hA5.box
              have HA5 := Lib.hid hA5
              clear hA5 hAa eo5 eoa b5 x0 x1 x2 x3
              go_wp2_with fail

              obtain ⟨w6, hw6⟩ : ∃ w6, w5.alloc (.cells #[.int .i64 (N : Int), .int .i64 (hd : Int), .slice pa la ca] 31) = w6 := ⟨_, rfl⟩
              have y6 : w6.heap[w5.heap.size]? = some (.cells #[.int .i64 (N : Int), .int .i64 (hd : Int), .slice pa la ca] 31 (0, 0)) := by rw [← hw6]; exact World.alloc_heap_new w5 _

              have b6 : Below w5.heap.size w5 w6 := by rw [← hw6]; exact (Below.refl _ w5).alloc (Nat.le_refl _) _
              have z6 := b6.size
              have A6 := HA5.out.below b6

              have hw7 := peek_any w6 R M N h l cs on A6.ring
              rw [HU.out] at hw7
              rw [hw6]
              clear hw6
              refine hw7.mono ?_
              clear hw7
              rintro e w7 ⟨v7, rfl, hv7, -, b7⟩
              have A7 := A6.below b7
              obtain ⟨t0, t1, t2, t3⟩ := three_cells A7.box
              obtain ⟨p7, c7, rfl, -⟩ := id hv7
              have hsB := RB.out w7 A7.rd
              obtain ⟨L7, hL7⟩ : ∃ L7, held cs h u = L7 := ⟨_, rfl⟩
              rw [hL7] at hv7 hsB ⊢
              have HSM := Lib.hid (same_true w7 p7 pz L7.length c7 lz cz L7 hv7 hsB)
              have HA7 := Lib.hid A7
              clear A7 hsB hv7 y6 A6 b6 hL7 b7
              go_wp2_with fail
              refine HSM.out.mono ?_
              rintro e w8 ⟨rfl, mm, rfl⟩
              have HAC := Lib.hid (HA7.out.below (show Below w7.heap.size w7 (w7.drewN mm) from ⟨rfl, rfl, rfl, Nat.le_refl _, fun _ _ => rfl⟩))
              have HT := Lib.hid (told_any _ R M N h l cs HAC.out.ring p l c HAC.out.rd)
              unfold refV at HT
              clear HA7 HSM
              go_wp2_with fail

              refine HT.out.mono ?_
              rintro e w9 ⟨rfl, b9⟩
              have HA9 := Lib.hid (HAC.out.below b9)
              clear HT HAC b9
              go_wp2_with fail
              go_roundw
              case rel => exact ⟨n + 1, _, _, _, _, _, _, by go_num, by omega, HA9.out⟩
              case measure => simp [intOf]; omega
            | 4, _ =>
              go_wp2_with fail
              obtain ⟨wa, hwa⟩ : ∃ wa, wr.alloc (.cells #[.int .u8 (kd.toNat : Int), .slice pb bs.length cb, .int .i64 on] 34) = wa := ⟨_, rfl⟩
              have ba : Below wr.heap.size wr wa := by rw [← hwa]; exact (Below.refl _ wr).alloc (Nat.le_refl _) _
              have sa : wa.heap.size = wr.heap.size + 1 := by rw [← hwa]; simp
              have eoa : wa.heap[wr.heap.size]? = some (.cells #[.int .u8 (kd.toNat : Int), .slice pb bs.length cb, .int .i64 on] 34 (0, 0)) := by rw [← hwa]; exact World.alloc_heap_new wr _
              have hAa := HA.out.below ba
              rw [hwa]
              clear hwa ba

              have hw := rread_any wa N h p l c on (held cs h l) hAa.rd (by omega) hhN (by rw [HLN.out]; exact hkN)
              rw [HLN.out] at hw
              unfold refV at hw
              obtain ⟨u, hu⟩ : ∃ u, upTo on l = u := ⟨_, rfl⟩
              rw [hu] at hw
              have hul : u ≤ l := by rw [← hu]; unfold upTo; omega
              have HU := Lib.hid hu
              clear hu
              have hcl := HA.out.rd.cap.1
              rw [HLN.out] at hcl
              have rA := fun W (hW : RD W (.slice p l c) (held cs h l)) => hW.part (i := u) (j := l) (m := c) hul (by rw [HLN.out]; exact Nat.le_refl _) hcl (Nat.le_refl _)
              have rB := fun W (hW : RD W (.slice p l c) (held cs h l)) => hW.part (i := 0) (j := u) (m := c) (Nat.zero_le _) (by rw [HLN.out]; exact hul) (by omega) (Nat.le_refl _)
              have eqA : List.drop u (List.take l (held cs h l)) = held cs ((h + u) % N) (l - u) := by
                rw [List.take_of_length_le (by rw [HLN.out]; exact Nat.le_refl _)]
                have := held_drop cs h l u (by rw [HA.out.ring.len]; exact hhN) (by rw [HA.out.ring.len]; exact hkN) hul
                rwa [HA.out.ring.len] at this
              have eqB : List.drop 0 (List.take u (held cs h l)) = held cs h u := by
                rw [List.drop_zero]
                exact held_take cs h l u (by rw [HA.out.ring.len]; exact hhN) (by rw [HA.out.ring.len]; exact hkN) hul
              have blA : ∀ g, (sliced p u l c 1).ownBlock = some g → (Value.slice p l c).ownBlock = some g := fun g e => by
                obtain ⟨ad2, e1, e2⟩ := sliced_ownBlock e
                subst e1
                simpa [Value.ownBlock] using e2
              have blB : ∀ g, (sliced p 0 u c 1).ownBlock = some g → (Value.slice p l c).ownBlock = some g := fun g e => by
                obtain ⟨ad2, e1, e2⟩ := sliced_ownBlock e
                subst e1
                simpa [Value.ownBlock] using e2
              rw [eqA] at rA
              rw [eqB] at rB
              obtain ⟨pa, la, ca, ea⟩ : ∃ q l' c', sliced p u l c 1 = .slice q l' c' := ⟨_, _, _, rfl⟩
              obtain ⟨pz, lz, cz, ez⟩ : ∃ q l' c', sliced p 0 u c 1 = .slice q l' c' := ⟨_, _, _, rfl⟩
              rw [ea] at rA blA hw
              rw [ez] at rB blB hw
              have hne2 : held cs ((h + u) % N) (l - u) ≠ [] → held cs h l ≠ [] := fun h1 h2 => h1 (by rw [← eqA, h2]; simp)
              have RA := Lib.hid rA
              have RB := Lib.hid rB
              have BLA := Lib.hid blA
              have NE2 := Lib.hid hne2
              have BLB := Lib.hid blB
              obtain ⟨hd, hhd⟩ : ∃ hd, (h + u) % N = hd := ⟨_, rfl⟩
              rw [hhd] at RA NE2 hw
              have HHD := Lib.hid hhd
              clear rA rB blA blB hne2 eqA eqB ea ez hhd
              refine hw.mono ?_
              clear hw
              rintro e w5 ⟨rfl, b5⟩

              have z5 := b5.size
              have eo5 := (b5.block _ (by omega)).trans eoa
              obtain ⟨o0, o1, o2, -⟩ := three_cells eo5
              have hlt5 : wr.heap.size < w5.heap.size := by omega
              have hltX : X < w5.heap.size := by omega
              have hA5 := hAa.below b5
              obtain ⟨v0, v1, v2, v3⟩ := three_cells hA5.box
              have HA5 := Lib.hid hA5
              clear hA5 hAa eo5 eoa b5 x0 x1 x2 x3
              go_wp2_with fail

              obtain ⟨w6, hw6⟩ : ∃ w6, w5.alloc (.cells #[.int .i64 (N : Int), .int .i64 (hd : Int), .slice pa la ca] 31) = w6 := ⟨_, rfl⟩
              have y6 : w6.heap[w5.heap.size]? = some (.cells #[.int .i64 (N : Int), .int .i64 (hd : Int), .slice pa la ca] 31 (0, 0)) := by rw [← hw6]; exact World.alloc_heap_new w5 _

              have b6 : Below w5.heap.size w5 w6 := by rw [← hw6]; exact (Below.refl _ w5).alloc (Nat.le_refl _) _
              have z6 := b6.size
              have A6 := HA5.out.below b6

              have hw7 := drop_any w6 R M N h l cs on A6.ring
              rw [HU.out, HHD.out] at hw7
              rw [hw6]
              clear hw6
              refine hw7.mono ?_
              clear hw7
              rintro e w7 ⟨rfl, hr7, o7⟩
              have hY : w5.heap.size < w6.heap.size := (Array.getElem?_eq_some_iff.1 y6).1
              obtain ⟨s0, s1, s2, s3⟩ := three_cells ((o7.block _ hY (by omega) (by omega)).trans y6)
              have bx7 := (o7.block X (by omega) hXR hXM).trans A6.box
              obtain ⟨t0, t1, t2, t3⟩ := three_cells bx7
              have A7 : RD w7 (.slice pa la ca) (held cs hd (l - u)) := (RA.out w6 A6.rd).keep (fun hne g hg => by
                have h1 := A6.own (NE2.out hne) g (BLA.out g hg)
                obtain ⟨g', q1, q2⟩ := (RA.out w6 A6.rd).lt hne
                rw [hg] at q1
                cases q1
                exact o7.block g q2 h1.1 h1.2.1)
              have hlz : lz = u := by
                have := (RB.out w6 A6.rd).len
                rw [this, held_len cs h u (by rw [A6.ring.len]; exact hhN) (by rw [A6.ring.len]; omega)]
              subst hlz
              have hact := act_store (w := w) (X := X) hr7 bx7 A7 (fun hne g hg => A6.own (NE2.out hne) g (BLA.out g hg)) hXR hXM (o7.below A6.bel hRw hMw A6.bel.size) hXw
              have HAC := Lib.hid hact
              have HT := Lib.hid (told_any _ R M N hd (l - lz) cs hact.ring pa la ca hact.rd)
              unfold refV at HT
              clear hact A7 hr7 o7 bx7 y6 A6 b6
              go_wp2_with fail

              refine HT.out.mono ?_
              rintro e w9 ⟨rfl, b9⟩
              have HA9 := Lib.hid (HAC.out.below b9)
              clear HT HAC b9
              go_wp2_with fail
              go_roundw
              case rel => exact ⟨n + 1, _, _, _, _, _, _, by go_num, by omega, HA9.out⟩
              case measure => simp [intOf]; omega
          · have hlt' : ¬ ((n : Int) < (os.length : Int)) := by omega
            obtain ⟨x0, x1, x2, x3⟩ := three_cells hA.box
            have HW := Lib.hid (walked_any wr R M N h k cs hA.ring p l c hA.rd)
            have hbl := hA.bel
            clear hA
            go_wp2_with fail
            refine HW.out.mono ?_
            rintro e w9 ⟨rfl, b9⟩
            go_wp2_with fail
            go_ret
            exact ⟨rfl, hbl.trans (b9.mono hbl.size)⟩
  · go_wp2_with fail
    go_ret
    exact ⟨rfl, B2⟩

end Go.Proofs.Ytbpbiliekbkciaa
