/- What takes a byte of a trailer's line. -/
import Derived.Test.YtjkccacpffikbaaGreatDoorDecTake
import Derived.Deep.Cut
namespace Go.Proofs.YtjkccacpffikbaaGreatDoor
open Go.ChangeShapes Go.WideShapes Go.ChangeAt Go.RowKit
open Oc Fl Bk Bd Dk
set_option linter.unusedVariables false
set_option maxRecDepth 100000

theorem rd_byte (W : World) (c : UInt8) : RD (W.alloc (.cells #[.int .u8 (c.toNat : Int)] 5)) (.slice (some ⟨W.heap.size, 0, none⟩) 1 1) [c] := rd_lit W [c] (0, 0) (by simp)

section
variable {R : Nat} {l : Lim} {d : Ds} {tv lv gv : Value}

theorem Spans.grown {W w3 : World} {row : Option Nat} (h : Spans W) (hg : W.grownBy w3 row) (hr : ∀ k, row = some k → 0 < k) : Spans w3 := by
  obtain ⟨h0, h1⟩ := h
  have e : ∀ j, w3.cell? ⟨0, j, none⟩ = W.cell? ⟨0, j, none⟩ := fun j => World.cell?_of_block (hg.block _ h0 (fun e => Nat.lt_irrefl _ (hr _ e.symm)))
  refine ⟨Nat.lt_of_lt_of_le h0 hg.size, ?_⟩
  rw [e, e, e, e, e, e]
  exact h1
/-- The line has grown; its cell is written. -/
theorem DA.lined {W w3 : World} {v' : Value} {line' : List UInt8} (h : DA R l d tv lv gv W) (hg : W.grownBy w3 lv.ownBlock) (ho : w3.ownsRow (0 + 1) 5 1 v' line'.length (bv line')) {d' : Ds}
    (hd : dcs l d' tv v' gv = (dcs l d tv lv gv).setIfInBounds 10 v') (hl : d'.line = line') (hf : d'.fields = d.fields) : DA R l d' tv v' gv (w3.setCell ⟨R, 10, none⟩ v') := by
  have hR : w3.heap[R]? = W.heap[R]? := hg.block R h.lt (fun e => h.line_ne e.symm)
  have ho' : v'.ownBlock ≠ some R := fun e => absurd (row_type (m := 0) (sz' := 0) ho e (hR.trans h.blk)) (by decide)
  refine ⟨by rw [hd]; exact heap_set v' (hR.trans h.blk), ?_, ?_, h.base, (h.spans.grown hg fun k hk => (h.line.lt k hk).1).set h.base⟩
  · rw [hl]; exact own_same ho fun k hk => Below.heap_setCell _ _ _ _ (fun e => ho' (by rw [hk, e]))
  · rw [hf]
    refine own_same h.fields fun k hk => (Below.heap_setCell _ _ _ _ (fun e => h.fields_ne (by rw [hk, e]))).trans (hg.block k (h.fields.lt k hk).2 (fun e => h.apart e.symm hk))
theorem DA.fielded {W w3 : World} {v' : Value} {fs' : List Fld} (h : DA R l d tv lv gv W) (hg : W.grownBy w3 gv.ownBlock) (ho : w3.ownsRow (0 + 1) 78 2 v' fs'.length (fv fs')) {d' : Ds}
    (hd : dcs l d' tv lv v' = (dcs l d tv lv gv).setIfInBounds 11 v') (hl : d'.line = d.line) (hf : d'.fields = fs') : DA R l d' tv lv v' (w3.setCell ⟨R, 11, none⟩ v') := by
  have hR : w3.heap[R]? = W.heap[R]? := hg.block R h.lt (fun e => h.fields_ne e.symm)
  have ho' : v'.ownBlock ≠ some R := fun e => absurd (row_type (m := 0) (sz' := 0) ho e (hR.trans h.blk)) (by decide)
  refine ⟨by rw [hd]; exact heap_set v' (hR.trans h.blk), ?_, ?_, h.base, (h.spans.grown hg fun k hk => (h.fields.lt k hk).1).set h.base⟩
  · rw [hl]
    refine own_same h.line fun k hk => (Below.heap_setCell _ _ _ _ (fun e => h.line_ne (by rw [hk, e]))).trans (hg.block k (h.line.lt k hk).2 (fun e => h.apart hk e.symm))
  · rw [hf]; exact own_same ho fun k hk => Below.heap_setCell _ _ _ _ (fun e => ho' (by rw [hk, e]))
theorem Moves.lined {W w3 : World} {v' : Value} (hg : W.grownBy w3 lv.ownBlock) (hn : ∀ g, v'.ownBlock = some g → lv.ownBlock = some g ∨ W.heap.size ≤ g) (i : Nat) (u : Value) : Moves (mine R lv gv) (mine R v' gv) W (w3.setCell ⟨R, i, none⟩ u) :=
  ⟨hg.os, hg.tape, hg.output, by simp only [World.setCell, Array.size_modify]; exact hg.size, fun k hk hm => (Below.heap_setCell _ _ _ _ (fun e => hm (.inl e))).trans (hg.block k hk (fun e => hm (.inr (.inl e.symm)))), fun k hk => by
    rcases hk with hk | hk | hk
    · exact .inl (.inl hk)
    · rcases hn k hk with h' | h'
      · exact .inl (.inr (.inl h'))
      · exact .inr h'
    · exact .inl (.inr (.inr hk))⟩
theorem Moves.fielded {W w3 : World} {v' : Value} (hg : W.grownBy w3 gv.ownBlock) (hn : ∀ g, v'.ownBlock = some g → gv.ownBlock = some g ∨ W.heap.size ≤ g) (i : Nat) (u : Value) : Moves (mine R lv gv) (mine R lv v') W (w3.setCell ⟨R, i, none⟩ u) :=
  ⟨hg.os, hg.tape, hg.output, by simp only [World.setCell, Array.size_modify]; exact hg.size, fun k hk hm => (Below.heap_setCell _ _ _ _ (fun e => hm (.inl e))).trans (hg.block k hk (fun e => hm (.inr (.inr e.symm)))), fun k hk => by
    rcases hk with hk | hk | hk
    · exact .inl (.inl hk)
    · exact .inl (.inr (.inl hk))
    · rcases hn k hk with h' | h'
      · exact .inl (.inr (.inr h'))
      · exact .inr h'⟩

set_option maxHeartbeats 8000000 in
theorem keep_any (c : UInt8) (p : Nat) (w : World) (h : DA R l d tv lv gv w) (hbl : d.bytes ≤ 1000000) (hln : d.line.length ≤ 1000000) :
    Calls Tryz.prog 56 #[.pointer (some ⟨R, 0, none⟩), .int .u8 (c.toNat : Int), .int .i64 (p : Int)] w fun x w' => TakeQ R l tv lv gv (keepD l c p d) w x w' := by
  obtain ⟨c0, c1, c2, c3, c4, c5, c6, c7, c8, c9, c10, c11, c12, c13⟩ := h.reads
  have f := h.f
  have H := Lib.hid h
  by_cases hb : d.bytes = l.bytes
  · have HE := Lib.hid (show keepD l c p d = failD 5 d from if_pos hb)
    have HF : Hid (∀ n, _) := Lib.hid fun n => fail_any 5 (w.drewN n) (h.below (below_drewN (Below.refl _ _) n))
    rw [hb] at c9
    clear h
    go_enter Tryz.func56, Tryz.ntmps56
    go_wp2_with fail
    go_quiet (fail)
    go_wp2_with (go_at_call 51; refine (HF.out _).mono ?_; rintro e w' ⟨lv', gv', rfl, h1, h2⟩)
    go_ret
    rw [HE.out]
    exact ⟨lv', gv', rfl, h1, (Moves.of_below (below_drewN (Below.refl _ _) _)).trans h2⟩
  · obtain ⟨bb, hbb⟩ : ∃ bb, d.bytes + 1 = bb := ⟨_, rfl⟩
    have HE := Lib.hid (show keepD l c p d = (p, { d with bytes := bb, line := d.line ++ [c] }) by rw [keepD, if_neg hb, hbb])
    have hz : ((d.bytes : Int) == (l.bytes : Int)) = false := beq_eq_false_iff_ne.2 (by omega)
    have hwr : IntKind.i64.wrap ((d.bytes : Int) + 1) = (bb : Int) := by rw [IntWalk.i64_in _ (by omega)]; omega
    have HD : Hid (∀ n, DA R l { d with bytes := bb } tv lv gv ((w.drewN n).setCell ⟨R, 9, none⟩ (.int .i64 (bb : Int)))) := Lib.hid fun n => (h.below (below_drewN (Below.refl _ _) n)).set 9 _ rfl rfl rfl
    have HM : Hid (∀ n, Moves (mine R lv gv) (mine R lv gv) w ((w.drewN n).setCell ⟨R, 9, none⟩ (.int .i64 (bb : Int)))) := Lib.hid fun n => (Moves.of_below (below_drewN (Below.refl _ _) n)).trans (Moves.set _ _ _ _ _ _)
    have HL := Lib.hid hln
    clear h hb hln hbb
    go_enter Tryz.func56, Tryz.ntmps56
    go_wp2_with fail
    go_quiet (fail)
    go_upto_region 4 with fail
    have h1 := HD.out nq
    have hm := HM.out nq
    clear HD HM H c0 c1 c2 c3 c4 c5 c6 c7 c8 c9 c10 c11 c12 c13 f hz
    generalize (w.drewN nq).setCell ⟨R, 9, none⟩ (.int .i64 (bb : Int)) = W1 at h1 hm ⊢
    have hlt := h1.lt
    have c10 := h1.reads.c10
    obtain ⟨W2, hW2⟩ : ∃ W2, W1.alloc (.cells #[.int .u8 (c.toNat : Int)] 5) = W2 := ⟨_, rfl⟩
    have b2 : Below W1.heap.size W1 W2 := by rw [← hW2]; exact below_box _ _
    have h2 := h1.below b2
    have hrd : RD W2 (.slice (some ⟨W1.heap.size, 0, none⟩) 1 1) [c] := by rw [← hW2]; exact rd_byte W1 c
    obtain ⟨v', w3, r0, r1, r2, r3⟩ := append_rd9 W2 29 (0 + 1) lv (.slice (some ⟨W1.heap.size, 0, none⟩) 1 1) d.line [c] h2.line hrd (by have := HL.out; simp; omega) (by have := h2.lt; have := h2.base; omega)
    have h3 := h2.lined r2 r1 (d' := { d with bytes := bb, line := d.line ++ [c] }) rfl rfl rfl
    have hm3 := (hm.trans (Moves.of_below b2)).trans (Moves.lined (R := R) (gv := gv) r2 r3 10 v')
    have HQ := Lib.hid (show TakeQ R l tv lv gv (p, { d with bytes := bb, line := d.line ++ [c] }) w (.returned (.int .i64 (p : Int))) (w3.setCell ⟨R, 10, none⟩ v') from ⟨_, _, rfl, h3, hm3⟩)
    have hB := (r2.block R h2.lt (fun e => h2.line_ne e.symm)).trans h2.blk
    have g10 : w3.frozen? ⟨R, 10, none⟩ = false := by simp [World.frozen?, hB]
    have k10 : w3.cell? ⟨R, 10, none⟩ = some lv := by simp only [World.cell?, hB]; rfl
    obtain ⟨p2, l2, q2, rfl⟩ := own_slice r1
    have HR := Lib.hid r0
    have f10 := h1.f 10
    subst hW2
    clear h1 h2 h3 hm hm3 r0 r1 r2 r3 b2 hrd HL hB
    go_wp2_with (at_builtin; refine wpList_append_run rfl (.tmp 30) (.tmp 32) 29 rfl _ _ _ _ rfl rfl HR.out ?_)
    go_ret
    rw [HE.out]
    exact HQ.out
end

end Go.Proofs.YtjkccacpffikbaaGreatDoor
