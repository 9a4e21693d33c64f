/- What the program's Whole answers. -/
import Derived.Test.YtilebfpaibajcaaGreatDoorOutRef
import Derived.Test.YtilebfpaibajcaaGreatDoorBodyScan
namespace Go.Proofs.YtilebfpaibajcaaGreatDoor
open Go.ChangeShapes Go.WideShapes Go.ChangeAt Go.RowKit
open Oc Fl Bk Bd Ot
set_option linter.unusedVariables false
set_option maxRecDepth 100000

set_option maxHeartbeats 4000000 in
theorem owhole14_any (k s : Int) (T : List UInt8) (p : Option Addr) (c : Nat) (w : World) (hT : RD w (.slice p T.length c) T) (hl : T.length ≤ 60000) (hv : ∀ g, (Value.slice p T.length c).ownBlock = some g → g < w.heap.size) (hsp : Spans w) (hbd : Bound w) :
    Calls Tryz.prog 22 #[fr14 k s, .slice p T.length c] w fun e w' => e = .returned (.bool (wholeF k s T)) ∧ Below w.heap.size w w' := by
  obtain ⟨w0, hw0⟩ : ∃ w0, w.alloc (.cells #[.int .i64 k, .int .u64 s] 24) = w0 := ⟨_, rfl⟩
  have b0 : Below w.heap.size w w0 := by rw [← hw0]; exact below_box _ _
  have l0 : w0.heap[w.heap.size]? = some (.cells #[.int .i64 k, .int .u64 s] 24 (0, 0)) := by rw [← hw0]; exact World.alloc_heap_new w _
  have HR := Lib.hid (right14_any k s w0)
  have W0 := Lib.hid hw0
  have B0 := Lib.hid b0
  have C0 : Hid (∀ W, Below w0.heap.size w0 W → W.cell? ⟨w.heap.size, 0, none⟩ = some (.int .i64 k) ∧ W.cell? ⟨w.heap.size, 1, none⟩ = some (.int .u64 s)) := Lib.hid fun W hb => by
    have := (hb.block w.heap.size (Array.getElem?_eq_some_iff.1 l0).1).trans l0
    simp [World.cell?, this]
  obtain ⟨y0, y1⟩ := C0.out w0 (Below.refl _ _)
  have HSC : Hid (∀ W, Below w.heap.size w W → _) := Lib.hid fun W hb => scan8_any (l := lmax) W (hT.below hb) (by omega) ⟨Nat.le_refl _, Nat.le_refl _, Nat.le_refl _⟩ (fun g hg => Nat.lt_of_lt_of_le (hv g hg) hb.size) (hsp.below hb) (hbd.below hb)
  have hlm : limv lmax = .agg #[.int .i64 65536, .int .i64 65536, .int .i64 65536] := rfl
  rw [hlm] at HSC
  unfold fr14 at HR ⊢
  clear hT hw0 b0 l0 hv hsp hbd hlm
  cases hr : right14 k s with
  | false =>
    rw [wholeF_no T hr]
    rw [hr] at HR
    clear hr HSC
    go_enter Tryz.func22, Tryz.ntmps22
    go_wp2_with fail
    rw [W0.out]
    refine HR.out.mono ?_
    rintro e w1 ⟨rfl, hb1⟩
    have B1 := Lib.hid (ahead B0.out hb1)
    clear hb1
    go_wp2_with fail
    go_ret
    exact ⟨rfl, B1.out⟩
  | true =>
    rw [hr] at HR
    by_cases hk : k = 2
    · subst hk
      rw [wholeF_scan T hr]
      obtain ⟨⟨st, kk, ee⟩, hm⟩ : ∃ m, go lmax (sz [] 0 0) T 0 = m := ⟨_, rfl⟩
      rw [show scanM T = (st, kk, ee) from hm]
      have HM := Lib.hid hm
      clear hr hm
      go_enter Tryz.func22, Tryz.ntmps22
      go_wp2_with fail
      rw [W0.out]
      refine HR.out.mono ?_
      rintro e w1 ⟨rfl, hb1⟩
      have B1 := Lib.hid (ahead B0.out hb1)
      clear y0 y1
      obtain ⟨y0, y1⟩ := C0.out w1 hb1
      clear hb1
      go_wp2_with fail
      refine (HSC.out _ B1.out).mono ?_
      rintro e w2 ⟨st', kk', ee', dv, gv, hgo, rfl, hb2, hd, hg⟩
      rw [HM.out] at hgo
      simp only [Prod.mk.injEq] at hgo
      obtain ⟨rfl, rfl, rfl⟩ := hgo
      obtain ⟨pd, cd, rfl, -⟩ := hd
      obtain ⟨pg, cg, rfl, -, -⟩ := RS.slice hg
      have B2 := Lib.hid (ahead B1.out hb2)
      generalize (if ee = 0 then st.data else []).length = nd at *
      generalize (if ee = 0 then st.fields else []).length = nf at *
      generalize (if ee = 0 then kk else 0) = nk at *
      clear hb2 hg y0 y1
      unfold bodyv
      by_cases he : ee = 0
      · subst he
        go_wp2_with fail
        go_ret
        exact ⟨ret_bool (by rw [Bool.eq_iff_iff]; simp; omega), ahead B2.out (below_box _ _)⟩
      · have hb : ((ee : Int) == 0) = false := beq_eq_false_iff_ne.2 (by omega)
        have HE := Lib.hid he
        clear he
        go_wp2_with fail
        go_ret
        exact ⟨ret_bool (by rw [decide_eq_false HE.out]; rfl), ahead B2.out (below_box _ _)⟩
    · rw [wholeF_other T hr hk]
      have hb : (k == 2) = false := beq_eq_false_iff_ne.2 hk
      have hwl : IntKind.u64.wrap (T.length : Int) = (T.length : Int) := IntWalk.u64_in _ (by omega)
      clear hr HSC
      by_cases h3 : k = 3
      · subst h3
        clear hk
        go_enter Tryz.func22, Tryz.ntmps22
        go_wp2_with fail
        rw [W0.out]
        refine HR.out.mono ?_
        rintro e w1 ⟨rfl, hb1⟩
        have B1 := Lib.hid (ahead B0.out hb1)
        clear y0 y1
        obtain ⟨y0, y1⟩ := C0.out w1 hb1
        clear hb1
        go_wp2_with fail
        go_ret
        exact ⟨rfl, B1.out⟩
      · have hb3 : (k == 3) = false := beq_eq_false_iff_ne.2 h3
        rw [decide_eq_false h3]
        clear h3 hk
        go_enter Tryz.func22, Tryz.ntmps22
        go_wp2_with fail
        rw [W0.out]
        refine HR.out.mono ?_
        rintro e w1 ⟨rfl, hb1⟩
        have B1 := Lib.hid (ahead B0.out hb1)
        clear y0 y1
        obtain ⟨y0, y1⟩ := C0.out w1 hb1
        clear hb1
        go_wp2_with fail
        go_ret
        exact ⟨ret_bool (by rw [Bool.eq_iff_iff]; simp), B1.out⟩

end Go.Proofs.YtilebfpaibajcaaGreatDoor
