/- What the document's intake answers: Wants, Fields, Close. -/
import Derived.Test.YtjkccacpffikbaaGreatDoorIntRef
namespace Go.Proofs.YtjkccacpffikbaaGreatDoor
open Go.ChangeShapes Go.WideShapes Go.ChangeAt Go.RowKit
open Oc Fl Bk Bd Dk Ik
set_option linter.unusedVariables false
set_option maxRecDepth 100000

/-- What is told of a call, as cells: an intake, data, a number, an error. -/
abbrev tcs (r : Rf) (p : Option Addr) (n c : Nat) (pd : Option Addr) (nd cd : Nat) (m e : Nat) : Array Value := #[.int .i64 (r.kind : Int), .int .u64 (r.size : Int), .int .i64 (r.l.ext : Int), .int .i64 (r.l.fields : Int), .int .i64 (r.l.bytes : Int), .slice p n c, .bool r.closed, .int .i64 (r.e : Int), .int .i64 (r.g : Int), .slice pd nd cd, .int .i64 (m : Int), .int .i64 (e : Int)]
theorem got_fields (a0 a1 a2 a3 a4 a8 a9 : Int) (a5 : ByteArray) (p6 p7 : Option Addr) (n6 c6 n7 c7 : Nat) (W : World) : (Instr.field 75 (.agg #[.int .i64 a0, .int .u64 a1, .int .i64 a2, .int .i64 a3, .int .i64 a4, .string a5, .slice p6 n6 c6, .slice p7 n7 c7, .int .i64 a8, .int .i64 a9]) 0).run Tryz.prog W = .ok (.agg #[.int .i64 a0, .int .u64 a1, .int .i64 a2, .int .i64 a3, .int .i64 a4, .string a5, .slice p6 n6 c6, .slice p7 n7 c7]) W := by kernel_rfl
theorem state_fields (a0 a1 a2 a3 a4 : Int) (a5 : ByteArray) (p6 p7 : Option Addr) (n6 c6 n7 c7 : Nat) (W : World) : (Instr.field 73 (.agg #[.int .i64 a0, .int .u64 a1, .int .i64 a2, .int .i64 a3, .int .i64 a4, .string a5, .slice p6 n6 c6, .slice p7 n7 c7]) 7).run Tryz.prog W = .ok (.slice p7 n7 c7) W := by kernel_rfl
theorem rstop_e {r : Rf} (h : r.e ≠ 0) : rstop r = true := by unfold rstop; rw [decide_eq_false h]; rfl
theorem rstop_z {r : Rf} (h : r.e = 0) : rstop r = rdone r := by unfold rstop; rw [decide_eq_true h]; rfl

section
variable {r : Rf} {p : Option Addr} {c : Nat} {w : World}
set_option maxHeartbeats 4000000 in
theorem rwants12_any (hA : RD w (.slice p r.A.length c) r.A) (hr : ROk r) :
    Calls Tryz.prog 20 #[.agg (rcs r p r.A.length c)] w fun x w' => x = .returned (.int .u64 (rwants r : Int)) ∧ Below w.heap.size w w' := by
  obtain ⟨w0, hw0⟩ : ∃ w0, w.alloc (.cells (rcs r p r.A.length c) 39) = w0 := ⟨_, rfl⟩
  have b0 : Below w.heap.size w w0 := by rw [← hw0]; exact below_box _ _
  have l0 : w0.heap[w.heap.size]? = some (.cells (rcs r p r.A.length c) 39 (0, 0)) := by rw [← hw0]; exact World.alloc_heap_new w _
  obtain ⟨⟨y0, y1, y2, y3, y4, y5, y6, y7, y8⟩, -⟩ := nine_cells l0
  have hlt := (Array.getElem?_eq_some_iff.1 l0).1
  have KC : Hid (∀ W, Below w0.heap.size w0 W → _) := Lib.hid fun W h => (nine_cells ((h.block w.heap.size hlt).trans l0)).1
  have W0 := Lib.hid hw0
  have B0 := Lib.hid b0
  have HD := Lib.hid (rdone12_any (hA.below b0) hr)
  obtain ⟨h1, h2, h3, h4, h5, h6⟩ := hr
  unfold rcs at W0 HD ⊢
  clear hw0 b0 l0 hA hlt
  by_cases he : r.e = 0
  case neg =>
    rw [show rwants r = 0 from if_pos (rstop_e he)]
    have hb : ((r.e : Int) != 0) = true := by unfold bne; rw [beq_eq_false_iff_ne.2 (by omega)]; rfl
    clear HD he h5 KC
    go_enter Tryz.func20, Tryz.ntmps20
    go_wp2_with fail
    rw [W0.out]
    go_ret
    exact ⟨rfl, B0.out⟩
  have hb : ((r.e : Int) != 0) = false := by rw [he]; rfl
  cases hd : rdone r with
  | true =>
    rw [show rwants r = 0 from if_pos (by rw [rstop_z he]; exact hd)]
    rw [hd] at HD
    clear he h5 KC hd
    go_enter Tryz.func20, Tryz.ntmps20
    go_wp2_with fail
    rw [W0.out]
    refine HD.out.mono ?_
    rintro x w1 ⟨rfl, hb1⟩
    have B1 := Lib.hid (ahead B0.out hb1)
    clear hb1 HD
    go_wp2_with fail
    go_ret
    exact ⟨rfl, B1.out⟩
  | false =>
    rw [hd] at HD
    have hW : rwants r = if r.kind = 1 then r.size - r.A.length else 4611686018427387903 := if_neg (by rw [rstop_z he, hd]; decide)
    rw [hW]
    by_cases hk1 : r.kind = 1
    · rw [if_pos hk1]
      have hbk : ((r.kind : Int) == 1) = true := by rw [hk1]; rfl
      have h5' := h5 hk1
      have hw : IntKind.u64.wrap (r.A.length : Int) = (r.A.length : Int) := IntWalk.u64_in _ (by omega)
      have hw2 : IntKind.u64.wrap ((r.size : Int) - (r.A.length : Int)) = ((r.size - r.A.length : Nat) : Int) := by rw [IntWalk.u64_in _ (by omega)]; omega
      generalize r.size - r.A.length = q at *
      clear he h5 hk1 hd hW h5'
      go_enter Tryz.func20, Tryz.ntmps20
      go_wp2_with fail
      rw [W0.out]
      refine HD.out.mono ?_
      rintro x w1 ⟨rfl, hb1⟩
      have B1 := Lib.hid (ahead B0.out hb1)
      obtain ⟨z0, z1, z2, z3, z4, z5, z6, z7, z8⟩ := KC.out w1 hb1
      clear hb1 HD KC y0 y1 y2 y3 y4 y5 y6 y7 y8
      go_wp2_with fail
      go_ret
      exact ⟨rfl, B1.out⟩
    · rw [if_neg hk1]
      have hbk : ((r.kind : Int) == 1) = false := beq_eq_false_iff_ne.2 (by omega)
      clear he h5 hk1 hd hW
      go_enter Tryz.func20, Tryz.ntmps20
      go_wp2_with fail
      rw [W0.out]
      refine HD.out.mono ?_
      rintro x w1 ⟨rfl, hb1⟩
      have B1 := Lib.hid (ahead B0.out hb1)
      obtain ⟨z0, z1, z2, z3, z4, z5, z6, z7, z8⟩ := KC.out w1 hb1
      clear hb1 HD KC y0 y1 y2 y3 y4 y5 y6 y7 y8
      go_wp2_with fail
      go_ret
      exact ⟨rfl, B1.out⟩

set_option maxHeartbeats 4000000 in
theorem rfields12_any (hA : RD w (.slice p r.A.length c) r.A) (hr : ROk r) :
    Calls Tryz.prog 23 #[.agg (rcs r p r.A.length c)] w fun x w' => ∃ u, x = .returned u ∧ FS w' u (rfields r) ∧ Below w.heap.size w w' := by
  obtain ⟨w0, hw0⟩ : ∃ w0, w.alloc (.cells (rcs r p r.A.length c) 39) = w0 := ⟨_, rfl⟩
  have b0 : Below w.heap.size w w0 := by rw [← hw0]; exact below_box _ _
  have l0 : w0.heap[w.heap.size]? = some (.cells (rcs r p r.A.length c) 39 (0, 0)) := by rw [← hw0]; exact World.alloc_heap_new w _
  obtain ⟨⟨y0, y1, y2, y3, y4, y5, y6, y7, y8⟩, -⟩ := nine_cells l0
  have hlt := (Array.getElem?_eq_some_iff.1 l0).1
  have KC : Hid (∀ W, Below w0.heap.size w0 W → _) := Lib.hid fun W h => (nine_cells ((h.block w.heap.size hlt).trans l0)).1
  have W0 := Lib.hid hw0
  have B0 := Lib.hid b0
  have HA := Lib.hid (hA.below b0)
  have HD := Lib.hid (rdone12_any (hA.below b0) hr)
  obtain ⟨h1, h2, h3, h4, h5, h6⟩ := hr
  unfold rcs at W0 HD ⊢
  clear hw0 b0 l0 hA hlt h5
  by_cases hk2 : r.kind = 2
  case neg =>
    rw [show rfields r = [] from if_neg (fun h => hk2 h.1)]
    have hbk : ((r.kind : Int) != 2) = true := by unfold bne; rw [beq_eq_false_iff_ne.2 (by omega)]; rfl
    clear HD hk2 KC
    go_enter Tryz.func23, Tryz.ntmps23
    go_wp2_with fail
    rw [W0.out]
    go_ret
    exact ⟨_, rfl, RS.nil _ _, B0.out⟩
  have hbk : ((r.kind : Int) != 2) = false := by rw [hk2]; rfl
  cases hd : rdone r with
  | false =>
    rw [show rfields r = [] from if_neg (fun h => by rw [hd] at h; exact absurd h.2 (by decide))]
    rw [hd] at HD
    clear hk2 KC hd
    go_enter Tryz.func23, Tryz.ntmps23
    go_wp2_with fail
    rw [W0.out]
    refine HD.out.mono ?_
    rintro x w1 ⟨rfl, hb1⟩
    have B1 := Lib.hid (ahead B0.out hb1)
    clear hb1 HD
    go_wp2_with fail
    go_ret
    exact ⟨_, rfl, RS.nil _ _, B1.out⟩
  | true =>
    rw [hd] at HD
    rw [show rfields r = (scan r).1.fields from if_pos ⟨hk2, hd⟩]
    obtain ⟨fs, hfs⟩ : ∃ fs, (scan r).1.fields = fs := ⟨_, rfl⟩
    rw [hfs]
    have HF := Lib.hid hfs
    clear hk2 hd hfs
    go_enter Tryz.func23, Tryz.ntmps23
    go_wp2_with fail
    rw [W0.out]
    refine HD.out.mono ?_
    rintro x w1 ⟨rfl, hb1⟩
    have B1 := Lib.hid (ahead B0.out hb1)
    obtain ⟨z0, z1, z2, z3, z4, z5, z6, z7, z8⟩ := KC.out w1 hb1
    have HSC := Lib.hid (rscanF_any w1 (HA.out.below hb1) (by omega) h3)
    rw [limv] at HSC
    clear hb1 HD KC y0 y1 y2 y3 y4 y5 y6 y7 y8
    go_wp2_with fail
    refine HSC.out.mono ?_
    rintro x w2 ⟨s, k, e, dv, gv, hgo, rfl, hd, hf, hb2, hg⟩
    obtain rfl : s.fields = fs := by rw [← HF.out, scan_go, hgo]
    have B2 := Lib.hid (ahead B1.out hb2)
    have HFS := Lib.hid hf
    obtain ⟨pd, cd, rfl, -⟩ := id hd
    obtain ⟨pg, cg, rfl, -⟩ := RS.slice hf
    unfold gotv
    have hfe := got_fields (s.place : Int) (s.n : Int) (s.count : Int) (s.lines : Int) (s.size : Int) (k : Int) (e : Int) (arr s.text) pd pg s.data.length cd s.fields.length cg
    have hfe2 := state_fields (s.place : Int) (s.n : Int) (s.count : Int) (s.lines : Int) (s.size : Int) (arr s.text) pd pg s.data.length cd s.fields.length cg
    clear hgo hd hf hb2 hg HSC HF
    go_wp2_with fail
    go_ret
    exact ⟨_, rfl, HFS.out, B2.out⟩

/-- What is told, as it is made. -/
abbrev tz12 : Array Value := #[.int .i64 0, .int .u64 0, .int .i64 0, .int .i64 0, .int .i64 0, .slice none 0 0, .bool false, .int .i64 0, .int .i64 0, .slice none 0 0, .int .i64 0, .int .i64 0]
/-- Close's and Put's boxes. -/
theorem boxes_told (w : World) (r : Rf) (p : Option Addr) (n c : Nat) : ∃ w0, (w.alloc (.cells (rcs r p n c) 39)).alloc (.cells tz12 41) = w0 ∧ Below w.heap.size w w0 ∧ w0.heap.size = w.heap.size + 2 ∧
    w0.heap[w.heap.size]? = some (.cells (rcs r p n c) 39 (0, 0)) ∧ w0.heap[w.heap.size + 1]? = some (.cells tz12 41 (0, 0)) := by
  refine ⟨_, rfl, ahead (below_box _ _) (below_box _ _), by simp, ?_, ?_⟩
  · rw [Below.heap_alloc _ _ _ (by simp)]; exact World.alloc_heap_new w _
  · exact heap_alloc2_new w _ _
/-- It is told in the end. -/
theorem told_end {A : World} (hA : Below w.heap.size w A) (hT : A.heap[w.heap.size + 1]? = some (.cells tz12 41 (0, 0))) (u0 u1 u2 u3 u4 u5 u6 u7 u8 u9 ua ub : Value) :
    (over12 A (w.heap.size + 1) u0 u1 u2 u3 u4 u5 u6 u7 u8 u9 ua ub).heap[w.heap.size + 1]? = some (.cells #[u0, u1, u2, u3, u4, u5, u6, u7, u8, u9, ua, ub] 41 (0, 0)) ∧ Below w.heap.size w (over12 A (w.heap.size + 1) u0 u1 u2 u3 u4 u5 u6 u7 u8 u9 ua ub) :=
  ⟨over12_row hT _ _ _ _ _ _ _ _ _ _ _ _, over12_below hA (by omega) _ _ _ _ _ _ _ _ _ _ _ _⟩

set_option maxHeartbeats 4000000 in
theorem rclose12_any (hA : RD w (.slice p r.A.length c) r.A) (hr : ROk r) :
    Calls Tryz.prog 9 #[.agg (rcs r p r.A.length c)] w fun x w' => x = .returned (.agg (tcs (rshut r) p r.A.length c none 0 0 0 (rshut r).e)) ∧ Below w.heap.size w w' := by
  obtain ⟨w0, hw0, b0, z0, l0, l1⟩ := boxes_told w r p r.A.length c
  obtain ⟨⟨y0, y1, y2, y3, y4, y5, y6, y7, y8⟩, fy⟩ := nine_cells l0
  have KC : Hid (∀ W, Below w0.heap.size w0 W → _) := Lib.hid fun W h => (h.block w.heap.size (by omega)).trans l0
  have KT : Hid (∀ W, Below w0.heap.size w0 W → _) := Lib.hid fun W h => (h.block (w.heap.size + 1) (by omega)).trans l1
  have W0 := Lib.hid hw0
  have B0 := Lib.hid b0
  have HD := Lib.hid (rdone12_any (hA.below b0) hr)
  obtain ⟨h1, h2, h3, h4, h5, h6⟩ := hr
  unfold rcs at W0 HD KC ⊢
  unfold tz12 at W0
  unfold tcs
  clear hw0 b0 hA h5 l0
  by_cases he : r.e = 0
  case neg =>
    rw [show rshut r = r from if_pos (rstop_e he)]
    have hb : ((r.e : Int) != 0) = true := by unfold bne; rw [beq_eq_false_iff_ne.2 (by omega)]; rfl
    clear HD he KC KT l1 y0 y1 y2 y3 y4 y5 y6 y7 y8 fy
    go_enter Tryz.func9, Tryz.ntmps9
    go_wp2_with fail
    refine bodyPost_ret (results_row1 rfl _ _ (w.heap.size + 1) 41 _ (0, 0) _ rfl (heap_alloc2_new w _ _) Tryz.underlying41 rfl (by kernel_rfl)) rfl ?_
    exact ⟨rfl, ahead (below_box _ _) (below_box _ _)⟩
  have hb : ((r.e : Int) != 0) = false := by rw [he]; rfl
  cases hd : rdone r with
  | true =>
    rw [show rshut r = r from if_pos (by rw [rstop_z he]; exact hd)]
    rw [hd] at HD
    clear he hd l1
    go_enter Tryz.func9, Tryz.ntmps9
    go_wp2_with fail
    rw [W0.out]
    refine HD.out.mono ?_
    rintro x w1 ⟨rfl, hb1⟩
    obtain ⟨⟨v0, v1, v2, v3, v4, v5, v6, v7, v8⟩, fv⟩ := nine_cells (KC.out w1 hb1)
    have hT := KT.out w1 hb1
    obtain ⟨⟨t0, t1, t2, t3, t4, t5, t6, t7, t8, t9, ta, tb⟩, ft⟩ := twelve_cells hT
    have HE := Lib.hid (told_end (ahead B0.out hb1) hT (.int .i64 (r.kind : Int)) (.int .u64 (r.size : Int)) (.int .i64 (r.l.ext : Int)) (.int .i64 (r.l.fields : Int)) (.int .i64 (r.l.bytes : Int)) (.slice p r.A.length c) (.bool r.closed) (.int .i64 (r.e : Int)) (.int .i64 (r.g : Int)) (.slice none 0 0) (.int .i64 0) (.int .i64 (r.e : Int)))
    clear HD KC KT hb1 hT y0 y1 y2 y3 y4 y5 y6 y7 y8 fy
    go_wp2_with fail
    refine bodyPost_ret (results_row1 rfl _ _ (w.heap.size + 1) 41 _ (0, 0) _ rfl HE.out.1 Tryz.underlying41 rfl (by kernel_rfl)) rfl ?_
    exact ⟨rfl, HE.out.2⟩
  | false =>
    rw [hd] at HD
    have hR : rshut r = if r.kind = 3 then { r with closed := true } else { r with e := 4 } := if_neg (by rw [rstop_z he, hd]; decide)
    rw [hR]
    by_cases hk : r.kind = 3
    · rw [if_pos hk]
      have hbk : ((r.kind : Int) == 3) = true := by rw [hk]; rfl
      have hez : (r.e : Int) = 0 := by omega
      rw [hez] at W0 HD KC y7 ⊢
      clear hd l1 hR hk hb he
      go_enter Tryz.func9, Tryz.ntmps9
      go_wp2_with fail
      rw [W0.out]
      refine HD.out.mono ?_
      rintro x w1 ⟨rfl, hb1⟩
      have hC := KC.out w1 hb1
      have hT := KT.out w1 hb1
      have hC2 := heap_set (i := 6) (.bool true) hC
      obtain ⟨⟨v0, v1, v2, v3, v4, v5, v6, v7, v8⟩, fv⟩ := nine_cells hC
      obtain ⟨⟨q0, q1, q2, q3, q4, q5, q6, q7, q8⟩, -⟩ := nine_cells hC2
      have hT2 : (w1.setCell ⟨w.heap.size, 6, none⟩ (.bool true)).heap[w.heap.size + 1]? = _ := (Below.heap_setCell _ _ _ _ (by simp)).trans hT
      obtain ⟨⟨t0, t1, t2, t3, t4, t5, t6, t7, t8, t9, ta, tb⟩, ft⟩ := twelve_cells hT2
      have HE := Lib.hid (told_end ((ahead B0.out hb1).setCell (Nat.le_refl _) _) hT2 (.int .i64 (r.kind : Int)) (.int .u64 (r.size : Int)) (.int .i64 (r.l.ext : Int)) (.int .i64 (r.l.fields : Int)) (.int .i64 (r.l.bytes : Int)) (.slice p r.A.length c) (.bool true) (.int .i64 0) (.int .i64 (r.g : Int)) (.slice none 0 0) (.int .i64 0) (.int .i64 0))
      clear HD KC KT hb1 hT hC hC2 hT2 y0 y1 y2 y3 y4 y5 y6 y7 y8 fy
      go_wp2_with fail
      refine bodyPost_ret (results_row1 rfl _ _ (w.heap.size + 1) 41 _ (0, 0) _ rfl HE.out.1 Tryz.underlying41 rfl (by kernel_rfl)) rfl ?_
      exact ⟨rfl, HE.out.2⟩
    · rw [if_neg hk]
      have hbk : ((r.kind : Int) == 3) = false := beq_eq_false_iff_ne.2 (by omega)
      clear hd l1 hR hk he
      go_enter Tryz.func9, Tryz.ntmps9
      go_wp2_with fail
      rw [W0.out]
      refine HD.out.mono ?_
      rintro x w1 ⟨rfl, hb1⟩
      have hC := KC.out w1 hb1
      have hT := KT.out w1 hb1
      have hC2 := heap_set (i := 7) (.int .i64 4) hC
      obtain ⟨⟨v0, v1, v2, v3, v4, v5, v6, v7, v8⟩, fv⟩ := nine_cells hC
      obtain ⟨⟨q0, q1, q2, q3, q4, q5, q6, q7, q8⟩, -⟩ := nine_cells hC2
      have hT2 : (w1.setCell ⟨w.heap.size, 7, none⟩ (.int .i64 4)).heap[w.heap.size + 1]? = _ := (Below.heap_setCell _ _ _ _ (by simp)).trans hT
      obtain ⟨⟨t0, t1, t2, t3, t4, t5, t6, t7, t8, t9, ta, tb⟩, ft⟩ := twelve_cells hT2
      have HE := Lib.hid (told_end ((ahead B0.out hb1).setCell (Nat.le_refl _) _) hT2 (.int .i64 (r.kind : Int)) (.int .u64 (r.size : Int)) (.int .i64 (r.l.ext : Int)) (.int .i64 (r.l.fields : Int)) (.int .i64 (r.l.bytes : Int)) (.slice p r.A.length c) (.bool r.closed) (.int .i64 4) (.int .i64 (r.g : Int)) (.slice none 0 0) (.int .i64 0) (.int .i64 4))
      clear HD KC KT hb1 hT hC hC2 hT2 y0 y1 y2 y3 y4 y5 y6 y7 y8 fy
      go_wp2_with fail
      refine bodyPost_ret (results_row1 rfl _ _ (w.heap.size + 1) 41 _ (0, 0) _ rfl HE.out.1 Tryz.underlying41 rfl (by kernel_rfl)) rfl ?_
      exact ⟨rfl, HE.out.2⟩
end

end Go.Proofs.YtjkccacpffikbaaGreatDoor
