/- A decoder is made; the trailers that it tells. -/
import Derived.Test.YtjkccacpffikbaaGreatDoorDecStand
import Derived.Test.YtjkccacpffikbaaGreatDoorLimRight
namespace Go.Proofs.YtjkccacpffikbaaGreatDoor
open Go.ChangeShapes Go.WideShapes Go.ChangeAt Go.RowKit
open Oc Fl Bk Bd Dk
set_option linter.unusedVariables false
set_option maxRecDepth 100000

theorem limv_lim9 (l : Lim) : limv l = lim3 (l.ext : Int) (l.fields : Int) (l.bytes : Int) := rfl

set_option maxHeartbeats 2000000 in
theorem new_bad (a b c : Int) (w : World) (h : okLs a b c = false) :
    Calls Tryz.prog 25 #[lim3 a b c] w fun e w' => e = .returned (.tuple #[.pointer none, .int .i64 1]) ∧ Below w.heap.size w w' := by
  obtain ⟨w0, hw0⟩ : ∃ w0, w.alloc (obLim a b c) = w0 := ⟨_, rfl⟩
  have b0 : Below w.heap.size w w0 := by rw [← hw0]; exact below_box _ _
  have z0 : w0.heap.size = w.heap.size + 1 := by rw [← hw0]; simp
  have l0 : w0.heap[w.heap.size]? = some (obLim a b c) := by rw [← hw0]; exact World.alloc_heap_new w _
  have HR := Lib.hid (right8_any a b c w0)
  rw [h] at HR
  obtain ⟨⟨x0, x1, x2⟩, -⟩ := three_cells8 l0
  have W0 := Lib.hid hw0
  have B0 := Lib.hid b0
  unfold obLim at W0
  unfold lim3 at *
  clear hw0 b0 l0 h
  go_enter Tryz.func25, Tryz.ntmps25
  go_wp2_with fail
  rw [W0.out]
  go_wp2_with (go_at_call 24; refine HR.out.mono ?_; rintro e w1 ⟨rfl, hb1⟩)
  go_ret2
  exact ⟨rfl, ahead B0.out hb1⟩

set_option maxHeartbeats 4000000 in
theorem new_ok (l : Lim) (w : World) (hl : l.ext ≤ 65536 ∧ l.fields ≤ 65536 ∧ l.bytes ≤ 65536) (hsp : Spans w) :
    Calls Tryz.prog 25 #[lim3 (l.ext : Int) (l.fields : Int) (l.bytes : Int)] w fun e w' => ∃ R, e = .returned (.tuple #[.pointer (some ⟨R, 0, none⟩), .int .i64 0]) ∧ w.heap.size ≤ R ∧ DA R l d0 (tkAt d0.wh) (.slice none 0 0) (.slice none 0 0) w' ∧ Below w.heap.size w w' := by
  have hok : okLs (l.ext : Int) (l.fields : Int) (l.bytes : Int) = true := by unfold okLs okL; simp; omega
  obtain ⟨w0, hw0⟩ : ∃ w0, w.alloc (obLim (l.ext : Int) (l.fields : Int) (l.bytes : Int)) = w0 := ⟨_, rfl⟩
  have b0 : Below w.heap.size w w0 := by rw [← hw0]; exact below_box _ _
  have z0 : w0.heap.size = w.heap.size + 1 := by rw [← hw0]; simp
  have l0 : w0.heap[w.heap.size]? = some (obLim (l.ext : Int) (l.fields : Int) (l.bytes : Int)) := by rw [← hw0]; exact World.alloc_heap_new w _
  have HR := Lib.hid (right8_any (l.ext : Int) (l.fields : Int) (l.bytes : Int) w0)
  rw [hok] at HR
  obtain ⟨⟨x0, x1, x2⟩, -⟩ := three_cells8 l0
  have W0 := Lib.hid hw0
  have B0 := Lib.hid b0
  have L0 := Lib.hid l0
  have HSP := Lib.hid hsp
  unfold obLim at W0
  unfold lim3 at *
  clear hw0 b0 l0 hok hsp
  go_enter Tryz.func25, Tryz.ntmps25
  go_wp2_with fail
  rw [W0.out]
  refine HR.out.mono ?_
  rintro e w1 ⟨rfl, hb1⟩
  have z1 := hb1.size
  obtain ⟨⟨y0, y1, y2⟩, -⟩ := three_cells8 ((hb1.block w.heap.size (by omega)).trans L0.out)
  have B1 := Lib.hid (ahead B0.out hb1)
  have b2 : Below w1.heap.size w1 (w1.alloc (.cells (dcs l { d0 with wh := 0 } .nilFunc (.slice none 0 0) (.slice none 0 0)) 84)) := below_box _ _
  have D2 : DA w1.heap.size l { d0 with wh := 0 } .nilFunc (.slice none 0 0) (.slice none 0 0) (w1.alloc (.cells (dcs l { d0 with wh := 0 } .nilFunc (.slice none 0 0) (.slice none 0 0)) 84)) := by
    have hs1 := HSP.out.below B1.out
    exact ⟨World.alloc_heap_new w1 _, World.ownsRow_nil _ _ _ _, World.ownsRow_nil _ _ _ _, hs1.1, hs1.below b2⟩
  have HST := Lib.hid (stand_any 1 (by decide) _ D2)
  have B2 := Lib.hid (ahead B1.out b2)
  have HL := Lib.hid (show w.heap.size ≤ w1.heap.size by omega)
  clear hb1 x0 x1 x2 D2 b2
  go_wp2_with fail
  refine HST.out.mono ?_
  rintro e w3 ⟨rfl, h3, m3⟩
  have HQ := Lib.hid (And.intro h3 (m3.below (B := w.heap.size) (by have := HL.out; simp; omega) (fun k hk => by
    rcases hk with hk | hk | hk
    · rw [hk]; exact HL.out
    · simp [Value.ownBlock] at hk
    · simp [Value.ownBlock] at hk)))
  clear h3 m3
  go_wp2_with fail
  go_ret2
  exact ⟨_, rfl, HL.out, HQ.out.1, B2.out.trans HQ.out.2⟩

theorem nil_yes9 (W : World) : (binOp BinOp.eql 53 (.slice none 0 0) (.slice none 0 0)).run Tryz.prog W = .ok (.bool true) W := by kernel_rfl
theorem nil_no9 (ad : Addr) (n c : Nat) (W : World) : (binOp BinOp.eql 53 (.slice (some ad) n c) (.slice none 0 0)).run Tryz.prog W = .ok (.bool false) W := by kernel_rfl

set_option maxHeartbeats 2000000 in
theorem clone_any (v : Value) (fs : List Fld) (w : World) (h : FS w v fs) (hl : fs.length ≤ 1000000) :
    Calls Tryz.prog 31 #[v] w fun e w' => ∃ u, e = .returned u ∧ FS w' u fs ∧ Below w.heap.size w w' := by
  obtain ⟨p, c, rfl, hc, -⟩ := RS.slice h
  obtain ⟨-, p', c', e, -, -, h3, -⟩ := id h
  cases e
  cases p with
  | none =>
    have := h3 rfl
    have h0 : fs = [] := List.eq_nil_of_length_eq_zero (by omega)
    subst h0
    obtain rfl : c = 0 := by omega
    have hn := nil_yes9
    go_enter Tryz.func31, Tryz.ntmps31
    go_wp2_with fail
    go_ret
    exact ⟨_, rfl, RS.nil _ _, Below.refl _ _⟩
  | some ad =>
    have hown : (w.alloc (.cells #[] 78)).ownsRow w.heap.size 78 2 (.slice (some ⟨w.heap.size, 0, none⟩) 0 0) 0 (fv []) := World.ownsRow_made w #[] 0 (Nat.le_refl _) (by decide) rfl
    have b0 : Below w.heap.size w (w.alloc (.cells #[] 78)) := below_box _ _
    obtain ⟨v1, w1, r0, r1, r2⟩ := run_append_fs (w.alloc (.cells #[] 78)) 53 w.heap.size _ _ [] fs hown (h.below b0) (by simp; omega) (by simp)
    have b1 : Below w.heap.size w w1 := b0.grown r2 (by simp) (fun r e => by cases e; exact Nat.le_refl _)
    have HR := Lib.hid r0
    have HQ := Lib.hid (And.intro (RS.of_own r1) b1)
    obtain ⟨p1, l1, c1, rfl⟩ := own_slice r1
    have hn := fun W => nil_no9 ad fs.length c W
    clear h hown b0 r0 r1 r2 b1
    go_enter Tryz.func31, Tryz.ntmps31
    go_wp2_with (at_builtin; refine wpList_append_run rfl (.tmp 5) (.tmp 6) 53 rfl _ _ _ _ rfl rfl HR.out ?_)
    go_ret
    exact ⟨_, rfl, HQ.out.1, HQ.out.2⟩

set_option maxHeartbeats 2000000 in
theorem fields9_any {R : Nat} {l : Lim} {d : Ds} {tv lv gv : Value} (w : World) (h : DA R l d tv lv gv w) (hl : d.fields.length ≤ 1000000) :
    Calls Tryz.prog 27 #[.pointer (some ⟨R, 0, none⟩)] w fun e w' => ∃ u, e = .returned u ∧ FS w' u (if d.wh = 13 then d.fields else []) ∧ Below w.heap.size w w' := by
  have HD := Lib.hid (done_any w h)
  have c11 := h.reads.c11
  by_cases h13 : d.wh = 13
  · rw [if_pos h13]
    rw [decide_eq_true h13] at HD
    have HC := Lib.hid (clone_any gv d.fields w (RS.of_own h.fields) hl)
    clear h h13
    go_enter Tryz.func27, Tryz.ntmps27
    go_wp2_with (first | (go_at_call 30; refine HD.out.mono ?_; rintro e w' ⟨rfl, rfl⟩) | (go_at_call 31; refine HC.out.mono ?_; rintro e w' ⟨u, rfl, hu, hb⟩))
    go_ret
    exact ⟨u, rfl, hu, hb⟩
  · rw [if_neg h13]
    rw [decide_eq_false h13] at HD
    clear h h13
    go_enter Tryz.func27, Tryz.ntmps27
    go_wp2_with (first | (go_at_call 30; refine HD.out.mono ?_; rintro e w' ⟨rfl, rfl⟩))
    go_ret
    exact ⟨_, rfl, RS.nil _ _, Below.refl _ _⟩

end Go.Proofs.YtjkccacpffikbaaGreatDoor
