/- What the document's intake answers: Done, Wants, Fields, Close. -/
import Derived.Test.YtjkccacpffikbaaGreatDoorIntMath
import Derived.Test.YtjkccacpffikbaaGreatDoorBodyRScan
import Derived.Test.YtjkccacpffikbaaGreatDoorByteSlices
namespace Go.Proofs.YtjkccacpffikbaaGreatDoor
open Go.ChangeShapes Go.WideShapes Go.ChangeAt Go.RowKit
open Oc Fl Bk Bd Dk Ik
set_option linter.unusedVariables false
set_option maxRecDepth 100000

/-- Twelve cells are laid over. -/
def over12 (A : World) (R : Nat) (u0 u1 u2 u3 u4 u5 u6 u7 u8 u9 ua ub : Value) : World := ((over10 A R u0 u1 u2 u3 u4 u5 u6 u7 u8 u9).setCell ⟨R, 10, none⟩ ua).setCell ⟨R, 11, none⟩ ub
theorem over12_row {A : World} {R : Nat} {x0 x1 x2 x3 x4 x5 x6 x7 x8 x9 xa xb : Value} {t : TypeId} (h : A.heap[R]? = some (.cells #[x0, x1, x2, x3, x4, x5, x6, x7, x8, x9, xa, xb] t (0, 0))) (u0 u1 u2 u3 u4 u5 u6 u7 u8 u9 ua ub : Value) :
    (over12 A R u0 u1 u2 u3 u4 u5 u6 u7 u8 u9 ua ub).heap[R]? = some (.cells #[u0, u1, u2, u3, u4, u5, u6, u7, u8, u9, ua, ub] t (0, 0)) := by
  have h0 : (A.setCell ⟨R, 0, none⟩ u0).heap[R]? = some (.cells #[u0, x1, x2, x3, x4, x5, x6, x7, x8, x9, xa, xb] t (0, 0)) := heap_set u0 h
  have h1 : ((A.setCell ⟨R, 0, none⟩ u0).setCell ⟨R, 1, none⟩ u1).heap[R]? = some (.cells #[u0, u1, x2, x3, x4, x5, x6, x7, x8, x9, xa, xb] t (0, 0)) := heap_set u1 h0
  have h2 : (((A.setCell ⟨R, 0, none⟩ u0).setCell ⟨R, 1, none⟩ u1).setCell ⟨R, 2, none⟩ u2).heap[R]? = some (.cells #[u0, u1, u2, x3, x4, x5, x6, x7, x8, x9, xa, xb] t (0, 0)) := heap_set u2 h1
  have h3 : ((((A.setCell ⟨R, 0, none⟩ u0).setCell ⟨R, 1, none⟩ u1).setCell ⟨R, 2, none⟩ u2).setCell ⟨R, 3, none⟩ u3).heap[R]? = some (.cells #[u0, u1, u2, u3, x4, x5, x6, x7, x8, x9, xa, xb] t (0, 0)) := heap_set u3 h2
  have h4 : (((((A.setCell ⟨R, 0, none⟩ u0).setCell ⟨R, 1, none⟩ u1).setCell ⟨R, 2, none⟩ u2).setCell ⟨R, 3, none⟩ u3).setCell ⟨R, 4, none⟩ u4).heap[R]? = some (.cells #[u0, u1, u2, u3, u4, x5, x6, x7, x8, x9, xa, xb] t (0, 0)) := heap_set u4 h3
  have h5 : ((((((A.setCell ⟨R, 0, none⟩ u0).setCell ⟨R, 1, none⟩ u1).setCell ⟨R, 2, none⟩ u2).setCell ⟨R, 3, none⟩ u3).setCell ⟨R, 4, none⟩ u4).setCell ⟨R, 5, none⟩ u5).heap[R]? = some (.cells #[u0, u1, u2, u3, u4, u5, x6, x7, x8, x9, xa, xb] t (0, 0)) := heap_set u5 h4
  have h6 : (((((((A.setCell ⟨R, 0, none⟩ u0).setCell ⟨R, 1, none⟩ u1).setCell ⟨R, 2, none⟩ u2).setCell ⟨R, 3, none⟩ u3).setCell ⟨R, 4, none⟩ u4).setCell ⟨R, 5, none⟩ u5).setCell ⟨R, 6, none⟩ u6).heap[R]? = some (.cells #[u0, u1, u2, u3, u4, u5, u6, x7, x8, x9, xa, xb] t (0, 0)) := heap_set u6 h5
  have h7 : (over8 A R u0 u1 u2 u3 u4 u5 u6 u7).heap[R]? = some (.cells #[u0, u1, u2, u3, u4, u5, u6, u7, x8, x9, xa, xb] t (0, 0)) := heap_set u7 h6
  have h8 : ((over8 A R u0 u1 u2 u3 u4 u5 u6 u7).setCell ⟨R, 8, none⟩ u8).heap[R]? = some (.cells #[u0, u1, u2, u3, u4, u5, u6, u7, u8, x9, xa, xb] t (0, 0)) := heap_set u8 h7
  have h9 : (over10 A R u0 u1 u2 u3 u4 u5 u6 u7 u8 u9).heap[R]? = some (.cells #[u0, u1, u2, u3, u4, u5, u6, u7, u8, u9, xa, xb] t (0, 0)) := heap_set u9 h8
  have ha : ((over10 A R u0 u1 u2 u3 u4 u5 u6 u7 u8 u9).setCell ⟨R, 10, none⟩ ua).heap[R]? = some (.cells #[u0, u1, u2, u3, u4, u5, u6, u7, u8, u9, ua, xb] t (0, 0)) := heap_set ua h9
  exact heap_set ub ha
theorem over12_other (A : World) (R : Nat) (u0 u1 u2 u3 u4 u5 u6 u7 u8 u9 ua ub : Value) {g : Nat} (hg : g ≠ R) : (over12 A R u0 u1 u2 u3 u4 u5 u6 u7 u8 u9 ua ub).heap[g]? = A.heap[g]? :=
  (Below.heap_setCell _ _ _ _ hg).trans ((Below.heap_setCell _ _ _ _ hg).trans (over10_other _ _ _ _ _ _ _ _ _ _ _ _ hg))
theorem over12_below {B : Nat} {A W : World} (h : Below B A W) {R : Nat} (hR : B ≤ R) (u0 u1 u2 u3 u4 u5 u6 u7 u8 u9 ua ub : Value) : Below B A (over12 W R u0 u1 u2 u3 u4 u5 u6 u7 u8 u9 ua ub) := ((over10_below h hR _ _ _ _ _ _ _ _ _ _).setCell hR _).setCell hR _
/-- Nine cells are laid over. -/
def over9 (A : World) (R : Nat) (u0 u1 u2 u3 u4 u5 u6 u7 u8 : Value) : World := (over8 A R u0 u1 u2 u3 u4 u5 u6 u7).setCell ⟨R, 8, none⟩ u8
theorem over9_row {A : World} {R : Nat} {x0 x1 x2 x3 x4 x5 x6 x7 x8 : Value} {t : TypeId} (h : A.heap[R]? = some (.cells #[x0, x1, x2, x3, x4, x5, x6, x7, x8] t (0, 0))) (u0 u1 u2 u3 u4 u5 u6 u7 u8 : Value) :
    (over9 A R u0 u1 u2 u3 u4 u5 u6 u7 u8).heap[R]? = some (.cells #[u0, u1, u2, u3, u4, u5, u6, u7, u8] t (0, 0)) := by
  have h0 : (A.setCell ⟨R, 0, none⟩ u0).heap[R]? = some (.cells #[u0, x1, x2, x3, x4, x5, x6, x7, x8] t (0, 0)) := heap_set u0 h
  have h1 : ((A.setCell ⟨R, 0, none⟩ u0).setCell ⟨R, 1, none⟩ u1).heap[R]? = some (.cells #[u0, u1, x2, x3, x4, x5, x6, x7, x8] t (0, 0)) := heap_set u1 h0
  have h2 : (((A.setCell ⟨R, 0, none⟩ u0).setCell ⟨R, 1, none⟩ u1).setCell ⟨R, 2, none⟩ u2).heap[R]? = some (.cells #[u0, u1, u2, x3, x4, x5, x6, x7, x8] t (0, 0)) := heap_set u2 h1
  have h3 : ((((A.setCell ⟨R, 0, none⟩ u0).setCell ⟨R, 1, none⟩ u1).setCell ⟨R, 2, none⟩ u2).setCell ⟨R, 3, none⟩ u3).heap[R]? = some (.cells #[u0, u1, u2, u3, x4, x5, x6, x7, x8] t (0, 0)) := heap_set u3 h2
  have h4 : (((((A.setCell ⟨R, 0, none⟩ u0).setCell ⟨R, 1, none⟩ u1).setCell ⟨R, 2, none⟩ u2).setCell ⟨R, 3, none⟩ u3).setCell ⟨R, 4, none⟩ u4).heap[R]? = some (.cells #[u0, u1, u2, u3, u4, x5, x6, x7, x8] t (0, 0)) := heap_set u4 h3
  have h5 : ((((((A.setCell ⟨R, 0, none⟩ u0).setCell ⟨R, 1, none⟩ u1).setCell ⟨R, 2, none⟩ u2).setCell ⟨R, 3, none⟩ u3).setCell ⟨R, 4, none⟩ u4).setCell ⟨R, 5, none⟩ u5).heap[R]? = some (.cells #[u0, u1, u2, u3, u4, u5, x6, x7, x8] t (0, 0)) := heap_set u5 h4
  have h6 : (((((((A.setCell ⟨R, 0, none⟩ u0).setCell ⟨R, 1, none⟩ u1).setCell ⟨R, 2, none⟩ u2).setCell ⟨R, 3, none⟩ u3).setCell ⟨R, 4, none⟩ u4).setCell ⟨R, 5, none⟩ u5).setCell ⟨R, 6, none⟩ u6).heap[R]? = some (.cells #[u0, u1, u2, u3, u4, u5, u6, x7, x8] t (0, 0)) := heap_set u6 h5
  have h7 : (over8 A R u0 u1 u2 u3 u4 u5 u6 u7).heap[R]? = some (.cells #[u0, u1, u2, u3, u4, u5, u6, u7, x8] t (0, 0)) := heap_set u7 h6
  exact heap_set u8 h7
theorem over9_other (A : World) (R : Nat) (u0 u1 u2 u3 u4 u5 u6 u7 u8 : Value) {g : Nat} (hg : g ≠ R) : (over9 A R u0 u1 u2 u3 u4 u5 u6 u7 u8).heap[g]? = A.heap[g]? := (Below.heap_setCell _ _ _ _ hg).trans (over8_other _ _ _ _ _ _ _ _ _ _ hg)
theorem over9_below {B : Nat} {A W : World} (h : Below B A W) {R : Nat} (hR : B ≤ R) (u0 u1 u2 u3 u4 u5 u6 u7 u8 : Value) : Below B A (over9 W R u0 u1 u2 u3 u4 u5 u6 u7 u8) := (over8_below h hR _ _ _ _ _ _ _ _).setCell hR _
theorem nine_cells {A : World} {R : Nat} {x0 x1 x2 x3 x4 x5 x6 x7 x8 : Value} {t : TypeId} (h : A.heap[R]? = some (.cells #[x0, x1, x2, x3, x4, x5, x6, x7, x8] t (0, 0))) :
    (A.cell? ⟨R, 0, none⟩ = some x0 ∧ A.cell? ⟨R, 1, none⟩ = some x1 ∧ A.cell? ⟨R, 2, none⟩ = some x2 ∧ A.cell? ⟨R, 3, none⟩ = some x3 ∧ A.cell? ⟨R, 4, none⟩ = some x4 ∧ A.cell? ⟨R, 5, none⟩ = some x5 ∧ A.cell? ⟨R, 6, none⟩ = some x6 ∧ A.cell? ⟨R, 7, none⟩ = some x7 ∧ A.cell? ⟨R, 8, none⟩ = some x8) ∧ ∀ i, A.frozen? ⟨R, i, none⟩ = false := by
  simp [World.cell?, World.frozen?, h]
theorem twelve_cells {A : World} {R : Nat} {x0 x1 x2 x3 x4 x5 x6 x7 x8 x9 xa xb : Value} {t : TypeId} (h : A.heap[R]? = some (.cells #[x0, x1, x2, x3, x4, x5, x6, x7, x8, x9, xa, xb] t (0, 0))) :
    (A.cell? ⟨R, 0, none⟩ = some x0 ∧ A.cell? ⟨R, 1, none⟩ = some x1 ∧ A.cell? ⟨R, 2, none⟩ = some x2 ∧ A.cell? ⟨R, 3, none⟩ = some x3 ∧ A.cell? ⟨R, 4, none⟩ = some x4 ∧ A.cell? ⟨R, 5, none⟩ = some x5 ∧ A.cell? ⟨R, 6, none⟩ = some x6 ∧ A.cell? ⟨R, 7, none⟩ = some x7 ∧ A.cell? ⟨R, 8, none⟩ = some x8 ∧ A.cell? ⟨R, 9, none⟩ = some x9 ∧ A.cell? ⟨R, 10, none⟩ = some xa ∧ A.cell? ⟨R, 11, none⟩ = some xb) ∧ ∀ i, A.frozen? ⟨R, i, none⟩ = false := by
  simp [World.cell?, World.frozen?, h]

/-- Fields of what Scan tells. -/
theorem got_end (a0 a1 a2 a3 a4 a8 a9 : Int) (a5 : ByteArray) (p6 p7 : Option Addr) (n6 c6 n7 c7 : Nat) (W : World) : (Instr.field 75 (.agg #[.int .i64 a0, .int .u64 a1, .int .i64 a2, .int .i64 a3, .int .i64 a4, .string a5, .slice p6 n6 c6, .slice p7 n7 c7, .int .i64 a8, .int .i64 a9]) 2).run Tryz.prog W = .ok (.int .i64 a9) W := by kernel_rfl
/-- An intake of the document's, as cells. -/
abbrev rcs (r : Rf) (p : Option Addr) (n c : Nat) : Array Value := #[.int .i64 (r.kind : Int), .int .u64 (r.size : Int), .int .i64 (r.l.ext : Int), .int .i64 (r.l.fields : Int), .int .i64 (r.l.bytes : Int), .slice p n c, .bool r.closed, .int .i64 (r.e : Int), .int .i64 (r.g : Int)]
/-- What holds of one. -/
structure ROk (r : Rf) : Prop where
  kind : r.kind ≤ 3
  size : r.size ≤ 4611686018427387903
  lim : r.l.ext ≤ 65536 ∧ r.l.fields ≤ 65536 ∧ r.l.bytes ≤ 65536
  short : r.A.length ≤ 10000
  fits : r.kind = 1 → r.A.length ≤ r.size
  g : r.g ≤ 10000
theorem scan_go (r : Rf) : scan r = go r.l (sz [] 0 0) r.A 0 := cont_go _ _ _ _

section
variable {r : Rf} {p : Option Addr} {c : Nat} {w : World}
set_option maxHeartbeats 4000000 in
theorem rdone12_any (hA : RD w (.slice p r.A.length c) r.A) (hr : ROk r) :
    Calls Tryz.prog 15 #[.agg (rcs r p r.A.length c)] w fun x w' => x = .returned (.bool (rdone r)) ∧ Below w.heap.size w w' := by
  obtain ⟨w0, hw0⟩ : ∃ w0, w.alloc (.cells (rcs r p r.A.length c) 39) = w0 := ⟨_, rfl⟩
  have b0 : Below w.heap.size w w0 := by rw [← hw0]; exact below_box _ _
  have l0 : w0.heap[w.heap.size]? = some (.cells (rcs r p r.A.length c) 39 (0, 0)) := by rw [← hw0]; exact World.alloc_heap_new w _
  obtain ⟨⟨y0, y1, y2, y3, y4, y5, y6, y7, y8⟩, -⟩ := nine_cells l0
  have W0 := Lib.hid hw0
  have B0 := Lib.hid b0
  have HA := Lib.hid (hA.below b0)
  have HD := Lib.hid (show rdone r = _ from rfl)
  obtain ⟨h1, h2, h3, h4, h5, h6⟩ := hr
  unfold rdone at HD
  unfold rcs at W0 ⊢
  clear hw0 b0 l0 hA
  by_cases he : r.e = 0
  case neg =>
    rw [show rdone r = false by unfold rdone; rw [decide_eq_false he]; rfl]
    have hb : ((r.e : Int) != 0) = true := by unfold bne; rw [beq_eq_false_iff_ne.2 (by omega)]; rfl
    clear HD he h5
    go_enter Tryz.func15, Tryz.ntmps15
    go_wp2_with fail
    rw [W0.out]
    go_ret
    exact ⟨rfl, B0.out⟩
  have hb : ((r.e : Int) != 0) = false := by rw [he]; rfl
  by_cases hk1 : r.kind = 1
  · rw [show rdone r = decide (r.A.length = r.size) by unfold rdone; rw [decide_eq_true he, if_pos hk1]; rfl]
    have hbk : ((r.kind : Int) == 1) = true := by rw [hk1]; rfl
    have hw : IntKind.u64.wrap (r.A.length : Int) = (r.A.length : Int) := IntWalk.u64_in _ (by omega)
    clear HD he h5 hk1
    go_enter Tryz.func15, Tryz.ntmps15
    go_wp2_with fail
    rw [W0.out]
    go_ret
    exact ⟨ret_bool (by rw [Bool.eq_iff_iff]; simp; omega), B0.out⟩
  have hbk1 : ((r.kind : Int) == 1) = false := beq_eq_false_iff_ne.2 (by omega)
  by_cases hk2 : r.kind = 2
  · rw [show rdone r = decide ((scan r).2.2 = 0) by unfold rdone; rw [decide_eq_true he, if_neg hk1, if_pos hk2]; rfl]
    have hbk : ((r.kind : Int) == 2) = true := by rw [hk2]; rfl
    have HSC := Lib.hid (rscanF_any w0 HA.out (by omega) h3)
    rw [limv] at HSC
    obtain ⟨q, hq⟩ : ∃ q, (scan r).2.2 = q := ⟨_, rfl⟩
    rw [hq]
    have HE := Lib.hid hq
    clear HD he h5 hk1 hk2 hq
    go_enter Tryz.func15, Tryz.ntmps15
    go_wp2_with fail
    rw [W0.out]
    refine HSC.out.mono ?_
    rintro x w1 ⟨s, k, e, dv, gv, hgo, rfl, hd, hf, hb1, hg⟩
    obtain rfl : q = e := by rw [← HE.out, scan_go, hgo]
    have B1 := Lib.hid (ahead B0.out hb1)
    obtain ⟨pd, cd, rfl, -⟩ := id hd
    obtain ⟨pg, cg, rfl, -⟩ := RS.slice hf
    unfold gotv
    clear hgo hd hf hb1 hg HSC HE
    generalize s.data.length = nd at *
    generalize s.fields.length = nf at *
    have hfe := got_end (s.place : Int) (s.n : Int) (s.count : Int) (s.lines : Int) (s.size : Int) (k : Int) (q : Int) (arr s.text) pd pg nd cd nf cg
    go_wp2_with fail
    go_ret
    exact ⟨ret_bool (by rw [Bool.eq_iff_iff]; simp), B1.out⟩
  have hbk2 : ((r.kind : Int) == 2) = false := beq_eq_false_iff_ne.2 (by omega)
  by_cases hk3 : r.kind = 3
  · rw [show rdone r = r.closed by unfold rdone; rw [decide_eq_true he, if_neg hk1, if_neg hk2, if_pos hk3]; rfl]
    have hbk : ((r.kind : Int) == 3) = true := by rw [hk3]; rfl
    clear HD he h5 hk1 hk2 hk3
    go_enter Tryz.func15, Tryz.ntmps15
    go_wp2_with fail
    rw [W0.out]
    go_ret
    exact ⟨rfl, B0.out⟩
  have hbk3 : ((r.kind : Int) == 3) = false := beq_eq_false_iff_ne.2 (by omega)
  rw [show rdone r = true by unfold rdone; rw [decide_eq_true he, if_neg hk1, if_neg hk2, if_neg hk3]; rfl]
  clear HD he h5 hk1 hk2 hk3
  go_enter Tryz.func15, Tryz.ntmps15
  go_wp2_with fail
  rw [W0.out]
  go_ret
  exact ⟨rfl, B0.out⟩
end

end Go.Proofs.YtjkccacpffikbaaGreatDoor
