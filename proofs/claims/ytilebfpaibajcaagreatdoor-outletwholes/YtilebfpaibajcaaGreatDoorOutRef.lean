/- What the document's Whole answers. -/
import Derived.Test.YtilebfpaibajcaaGreatDoorMG
import Derived.Test.YtilebfpaibajcaaGreatDoorBodyRScan
namespace Go.Proofs.YtilebfpaibajcaaGreatDoor
open Go.ChangeShapes Go.WideShapes Go.ChangeAt Go.RowKit
open Oc Fl Bk Bd Ot
set_option linter.unusedVariables false
set_option maxRecDepth 100000

/-- Fields of what Scan tells. -/
theorem got14 (a0 a1 a2 a3 a4 a8 a9 : Int) (a5 : ByteArray) (x y : Value) (W : World) : ∀ R t, W.heap[R]? = some (.cells #[.int .i64 a0, .int .u64 a1, .int .i64 a2, .int .i64 a3, .int .i64 a4, .string a5, x, y, .int .i64 a8, .int .i64 a9] t (0, 0)) → W.cell? ⟨R, 8, none⟩ = some (.int .i64 a8) ∧ W.cell? ⟨R, 9, none⟩ = some (.int .i64 a9) := fun R t h => by
  simp [World.cell?, h]
theorem lim14 : (Value.agg #[.int .i64 65536, .int .i64 65536, .int .i64 65536]) = limv lmax := rfl
theorem wholeF_no {k s : Int} (T : List UInt8) (h : right14 k s = false) : wholeF k s T = false := by unfold wholeF; rw [h]; rfl
theorem wholeF_scan {s : Int} (T : List UInt8) (h : right14 2 s = true) : wholeF 2 s T = (decide ((scanM T).2.2 = 0) && decide ((scanM T).2.1 = T.length)) := by unfold wholeF; rw [h, if_pos rfl]; rfl
theorem wholeF_other {k s : Int} (T : List UInt8) (h : right14 k s = true) (h2 : k ≠ 2) : wholeF k s T = (decide (k = 3) || decide ((T.length : Int) = s)) := by unfold wholeF; rw [h, if_neg h2]; rfl

set_option maxHeartbeats 4000000 in
theorem rwhole14_any (k s : Int) (T : List UInt8) (p : Option Addr) (c : Nat) (w : World) (hT : RD w (.slice p T.length c) T) (hl : T.length ≤ 60000) :
    Calls Tryz.prog 21 #[fr14 k s, .slice p T.length c] w fun e w' => e = .returned (.bool (wholeF k s T)) ∧ Below w.heap.size w w' := by
  have HT := Lib.hid hT
  obtain ⟨w0, hw0⟩ : ∃ w0, w.alloc (.cells #[.int .i64 k, .int .u64 s] 24) = w0 := ⟨_, rfl⟩
  have b0 : Below w.heap.size w w0 := by rw [← hw0]; exact below_box _ _
  have l0 : w0.heap[w.heap.size]? = some (.cells #[.int .i64 k, .int .u64 s] 24 (0, 0)) := by rw [← hw0]; exact World.alloc_heap_new w _
  have HR := Lib.hid (rright14_any k s w0)
  have W0 := Lib.hid hw0
  have B0 := Lib.hid b0
  have C0 : Hid (∀ W, Below w0.heap.size w0 W → W.cell? ⟨w.heap.size, 0, none⟩ = some (.int .i64 k) ∧ W.cell? ⟨w.heap.size, 1, none⟩ = some (.int .u64 s)) := Lib.hid fun W hb => by
    have := (hb.block w.heap.size (Array.getElem?_eq_some_iff.1 l0).1).trans l0
    simp [World.cell?, this]
  obtain ⟨y0, y1⟩ := C0.out w0 (Below.refl _ _)
  unfold fr14 at HR ⊢
  clear hT hw0 b0 l0
  cases hr : right14 k s with
  | false =>
    rw [wholeF_no T hr]
    rw [hr] at HR
    clear hr
    go_enter Tryz.func21, Tryz.ntmps21
    go_wp2_with fail
    rw [W0.out]
    refine HR.out.mono ?_
    rintro e w1 ⟨rfl, hb1⟩
    have B1 := Lib.hid (ahead B0.out hb1)
    clear hb1
    go_wp2_with fail
    go_ret
    exact ⟨rfl, B1.out⟩
  | true =>
    rw [hr] at HR
    by_cases hk : k = 2
    · subst hk
      rw [wholeF_scan T hr]
      have HS : Hid (∀ W, Below w.heap.size w W → _) := Lib.hid fun W hb => rscan8_any (l := lmax) W (HT.out.below hb) hl ⟨Nat.le_refl _, Nat.le_refl _, Nat.le_refl _⟩
      have hlm : limv lmax = .agg #[.int .i64 65536, .int .i64 65536, .int .i64 65536] := rfl
      rw [hlm] at HS
      obtain ⟨⟨st, kk, ee⟩, hm⟩ : ∃ m, go lmax (sz [] 0 0) T 0 = m := ⟨_, rfl⟩
      rw [show scanM T = (st, kk, ee) from hm]
      have HM := Lib.hid hm
      clear hr hlm hm
      go_enter Tryz.func21, Tryz.ntmps21
      go_wp2_with fail
      rw [W0.out]
      refine HR.out.mono ?_
      rintro e w1 ⟨rfl, hb1⟩
      have B1 := Lib.hid (ahead B0.out hb1)
      clear y0 y1
      obtain ⟨y0, y1⟩ := C0.out w1 hb1
      clear hb1
      go_wp2_with fail
      refine (HS.out _ B1.out).mono ?_
      rintro e w2 ⟨st', kk', ee', dv, gv, hgo, rfl, hd, hg, hb2⟩
      rw [HM.out] at hgo
      simp only [Prod.mk.injEq] at hgo
      obtain ⟨rfl, rfl, rfl⟩ := hgo
      obtain ⟨pd, cd, rfl, -⟩ := hd
      obtain ⟨pg, cg, rfl, -, -⟩ := RS.slice hg
      have B2 := Lib.hid (ahead B1.out hb2)
      clear hb2 hg y0 y1
      unfold gotv
      by_cases he : ee = 0
      · subst he
        go_wp2_with fail
        go_ret
        exact ⟨ret_bool (by rw [Bool.eq_iff_iff]; simp; omega), ahead B2.out (below_box _ _)⟩
      · have hb : ((ee : Int) == 0) = false := beq_eq_false_iff_ne.2 (by omega)
        have HE := Lib.hid he
        clear he
        go_wp2_with fail
        go_ret
        exact ⟨ret_bool (by rw [decide_eq_false HE.out]; rfl), ahead B2.out (below_box _ _)⟩
    · rw [wholeF_other T hr hk]
      have hb : (k == 2) = false := beq_eq_false_iff_ne.2 hk
      have hwl : IntKind.u64.wrap (T.length : Int) = (T.length : Int) := IntWalk.u64_in _ (by omega)
      clear hr
      by_cases h3 : k = 3
      · subst h3
        clear hk
        go_enter Tryz.func21, Tryz.ntmps21
        go_wp2_with fail
        rw [W0.out]
        refine HR.out.mono ?_
        rintro e w1 ⟨rfl, hb1⟩
        have B1 := Lib.hid (ahead B0.out hb1)
        clear y0 y1
        obtain ⟨y0, y1⟩ := C0.out w1 hb1
        clear hb1
        go_wp2_with fail
        go_ret
        exact ⟨rfl, B1.out⟩
      · have hb3 : (k == 3) = false := beq_eq_false_iff_ne.2 h3
        rw [decide_eq_false h3]
        clear h3 hk
        go_enter Tryz.func21, Tryz.ntmps21
        go_wp2_with fail
        rw [W0.out]
        refine HR.out.mono ?_
        rintro e w1 ⟨rfl, hb1⟩
        have B1 := Lib.hid (ahead B0.out hb1)
        clear y0 y1
        obtain ⟨y0, y1⟩ := C0.out w1 hb1
        clear hb1
        go_wp2_with fail
        go_ret
        exact ⟨ret_bool (by rw [Bool.eq_iff_iff]; simp), B1.out⟩

end Go.Proofs.YtilebfpaibajcaaGreatDoor
