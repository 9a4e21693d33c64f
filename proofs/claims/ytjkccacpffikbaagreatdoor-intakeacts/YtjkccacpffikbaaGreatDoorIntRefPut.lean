/- What the document's Put answers of an intake that isn't chunked. -/
import Derived.Test.YtjkccacpffikbaaGreatDoorIntRefClose
import Derived.Test.YtjkccacpffikbaaGreatDoorOwnAppend
import Derived.Deep.Cut
namespace Go.Proofs.YtjkccacpffikbaaGreatDoor
open Go.ChangeShapes Go.WideShapes Go.ChangeAt Go.RowKit
open Oc Fl Bk Bd Dk Ik
set_option linter.unusedVariables false
set_option maxRecDepth 100000

/-- What the document's Put leaves. -/
def PutR (r : Rf) (p : Option Addr) (c : Nat) (b : List UInt8) (w : World) (x : Ending) (w' : World) : Prop :=
  ∃ (pa : Option Addr) (ca : Nat) (pd : Option Addr) (cd : Nat), x = .returned (.agg (tcs (rnext r b) pa (rnext r b).A.length ca pd (rdata r b).length cd (rnum r b) (rerr r b))) ∧
    RD w' (.slice pa (rnext r b).A.length ca) (rnext r b).A ∧ RD w' (.slice pd (rdata r b).length cd) (rdata r b) ∧ Below w.heap.size w w' ∧ (∀ g, (Value.slice pa (rnext r b).A.length ca).ownBlock = some g → ((rnext r b).A = r.A ∧ (Value.slice p r.A.length c).ownBlock = some g) ∨ w.heap.size ≤ g)

section
variable {r : Rf} {p : Option Addr} {c : Nat} {w : World} {b : List UInt8}
theorem PutR.stop {w' : World} (hs : rstop r = true) (hA : RD w (.slice p r.A.length c) r.A) (hb : Below w.heap.size w w') : PutR r p c b w (.returned (.agg (tcs r p r.A.length c none 0 0 0 r.e))) w' := by
  have e1 : rnext r b = r := if_pos hs
  have e2 : rnum r b = 0 := if_pos hs
  have e3 : rdata r b = [] := if_pos hs
  have e4 : rerr r b = r.e := if_pos hs
  unfold PutR
  rw [e1, e2, e3, e4]
  exact ⟨p, c, none, 0, rfl, hA.below hb, RD.nil _, hb, fun g hg => .inl ⟨rfl, hg⟩⟩
theorem rput_stop (hA : RD w (.slice p r.A.length c) r.A) (hr : ROk r) (hs : rstop r = true) {q : Option Addr} {k : Nat} :
    Calls Tryz.prog 12 #[.agg (rcs r p r.A.length c), .slice q b.length k] w fun x w' => PutR r p c b w x w' := by
  obtain ⟨w0, hw0, b0, z0, l0, l1⟩ := boxes_told w r p r.A.length c
  obtain ⟨⟨y0, y1, y2, y3, y4, y5, y6, y7, y8⟩, fy⟩ := nine_cells l0
  have KC : Hid (∀ W, Below w0.heap.size w0 W → _) := Lib.hid fun W h => (h.block w.heap.size (by omega)).trans l0
  have KT : Hid (∀ W, Below w0.heap.size w0 W → _) := Lib.hid fun W h => (h.block (w.heap.size + 1) (by omega)).trans l1
  have W0 := Lib.hid hw0
  have B0 := Lib.hid b0
  have HD := Lib.hid (rdone12_any (hA.below b0) hr)
  have HQ : Hid (∀ w', Below w.heap.size w w' → PutR r p c b w (.returned (.agg (tcs r p r.A.length c none 0 0 0 r.e))) w') := Lib.hid fun w' h => PutR.stop hs hA h
  obtain ⟨h1, h2, h3, h4, h5, h6⟩ := hr
  unfold rcs at W0 HD KC ⊢
  unfold tz12 at W0
  unfold tcs at HQ
  clear hw0 b0 hA h5 l0
  generalize b.length = L at *
  by_cases he : r.e = 0
  case neg =>
    have hb : ((r.e : Int) != 0) = true := by unfold bne; rw [beq_eq_false_iff_ne.2 (by omega)]; rfl
    clear HD he KC KT l1 y0 y1 y2 y3 y4 y5 y6 y7 y8 fy hs
    go_enter Tryz.func12, Tryz.ntmps12
    go_wp2_with fail
    refine bodyPost_ret (results_row1 rfl _ _ (w.heap.size + 1) 41 _ (0, 0) _ rfl (heap_alloc2_new w _ _) Tryz.underlying41 rfl (by kernel_rfl)) rfl ?_
    exact HQ.out _ (ahead (below_box _ _) (below_box _ _))
  have hb : ((r.e : Int) != 0) = false := by rw [he]; rfl
  rw [← rstop_z he, hs] at HD
  clear he l1 hs
  go_enter Tryz.func12, Tryz.ntmps12
  go_wp2_with fail
  rw [W0.out]
  refine HD.out.mono ?_
  rintro x w1 ⟨rfl, hb1⟩
  obtain ⟨⟨v0, v1, v2, v3, v4, v5, v6, v7, v8⟩, fv⟩ := nine_cells (KC.out w1 hb1)
  have hT := KT.out w1 hb1
  obtain ⟨⟨t0, t1, t2, t3, t4, t5, t6, t7, t8, t9, ta, tb⟩, ft⟩ := twelve_cells hT
  have HE := Lib.hid (told_end (ahead B0.out hb1) hT (.int .i64 (r.kind : Int)) (.int .u64 (r.size : Int)) (.int .i64 (r.l.ext : Int)) (.int .i64 (r.l.fields : Int)) (.int .i64 (r.l.bytes : Int)) (.slice p r.A.length c) (.bool r.closed) (.int .i64 (r.e : Int)) (.int .i64 (r.g : Int)) (.slice none 0 0) (.int .i64 0) (.int .i64 (r.e : Int)))
  clear HD KC KT hb1 hT y0 y1 y2 y3 y4 y5 y6 y7 y8 fy
  go_wp2_with fail
  refine bodyPost_ret (results_row1 rfl _ _ (w.heap.size + 1) 41 _ (0, 0) _ rfl HE.out.1 Tryz.underlying41 rfl (by kernel_rfl)) rfl ?_
  exact HQ.out _ HE.out.2

/-- An append onto nothing. -/
theorem own_nil12 {u : Value} {xs : List UInt8} (w : World) (base : Nat) (hbase : base ≤ w.heap.size) (hu : RD w u xs) (hx : xs.length ≤ 100000) :
    ∃ v1 w1, (Builtin.append_ #[29, 29] 29 #[.slice none 0 0, u]).run Tryz.prog w = .ok v1 w1 ∧ w1.ownsRow base 5 1 v1 xs.length (bv xs) ∧ Below w.heap.size w w1 := by
  obtain ⟨v1, w1, r0, r1, r2⟩ := run_append_rd w 29 base (.slice none 0 0) u 0 [] xs (World.ownsRow_nil _ _ _ _) hu (by simp; omega) hbase
  exact ⟨v1, w1, r0, by simpa using r1, (Below.refl _ w).grown r2 (Nat.le_refl _) (fun k hk => by simp [Value.ownBlock] at hk)⟩
end

end Go.Proofs.YtjkccacpffikbaaGreatDoor
