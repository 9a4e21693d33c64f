/- The laws' list of all timers of a clock, from what the program's clock answers. -/
import Derived.Test.YtcmkdeejofoibaaClkForms
import Derived.TacticsInMore
import Derived.LoopIn
import Derived.Shelf.Abstract
namespace Go.Proofs.Ytcmkdeejofoibaa
open Go.ChangeShapes Go.WideShapes Go.ChangeAt Go.RowKit
open Go.Shelf
open Ck
set_option linter.unusedVariables false
set_option maxRecDepth 100000

/-- What was gathered so far; rows of the call's own lie from H on. -/
structure TmI (C : Nat → Cs → (Nat → Prop) → World → Prop) (w : World) (R : Nat) (x : Cs) (M : Nat → Prop) (B H : Nat) (xs : List Tm) (W : World) : Prop where
  clk : C R x M W
  box : W.heap[B]? = some (.cells #[.pointer (some ⟨R, 0, none⟩)] 24 (0, 0))
  cell : ∃ p n c, W.heap[w.heap.size]? = some (.cells #[.slice p n c] 26 (0, 0)) ∧ W.ownsRow H 49 2 (.slice p n c) xs.length (tmv xs)
  below : Below w.heap.size w W
  top : w.heap.size < B
  hM : ∀ g, M g → g < w.heap.size
section
variable {C : Nat → Cs → (Nat → Prop) → World → Prop}
theorem TmI.but (F : Forms15 C) {w : World} {R : Nat} {x : Cs} {M : Nat → Prop} {B D H : Nat} {xs : List Tm} {A A' : World} (h : TmI C w R x M B H xs A) (hb : But D A A') (hD : B < D) (hH : D + 2 ≤ H) (hA : w.heap.size ≤ A.heap.size) : TmI C w R x M B H xs A' := by
  have h3 := h.top
  obtain ⟨p, n, c, hc, ho⟩ := h.cell
  exact ⟨F.keep h.clk fun g hg => hb.block g (F.lt h.clk g hg) (by have := h.hM g hg; omega) (by have := h.hM g hg; omega), hb.heap h.box (by omega) (by omega), ⟨p, n, c, hb.heap hc (by omega) (by omega), own_same ho fun g hg => hb.block g (ho.lt g hg).2 (by have := (ho.lt g hg).1; omega) (by have := (ho.lt g hg).1; omega)⟩, hb.below h.below (by omega) hA, h3, h.hM⟩
theorem TmI.step (F : Forms15 C) {w : World} {R : Nat} {x : Cs} {M : Nat → Prop} {B H : Nat} {xs : List Tm} {W : World} (h : TmI C w R x M B H xs W) (t : Tm) (hlen : xs.length ≤ 1000000) (hH : B < H) (hHW : H ≤ W.heap.size) :
    ∃ p n c p' n' c' w4, W.cell? ⟨w.heap.size, 0, none⟩ = some (.slice p n c) ∧ (Builtin.append_ #[26, 26] 26 #[.slice p n c, .slice (some ⟨W.heap.size, 0, none⟩) 1 1]).run Try.prog (W.alloc (.cells #[.int .i64 t.id, .int .i64 t.due] 49)) = .ok (.slice p' n' c') w4 ∧
      (w4.cell? ⟨w.heap.size, 0, none⟩ = some (.slice p n c) ∧ w4.frozen? ⟨w.heap.size, 0, none⟩ = false) ∧ TmI C w R x M B H (xs ++ [t]) (w4.setCell ⟨w.heap.size, 0, none⟩ (.slice p' n' c')) ∧
      (∀ r, B < r → r < H → (w4.setCell ⟨w.heap.size, 0, none⟩ (.slice p' n' c')).heap[r]? = W.heap[r]?) ∧ W.heap.size ≤ (w4.setCell ⟨w.heap.size, 0, none⟩ (.slice p' n' c')).heap.size := by
  have h3 := h.top
  obtain ⟨p, q, c, hc, hrow⟩ := h.cell
  obtain ⟨wa, hwa⟩ : ∃ wa, W.alloc (.cells #[.int .i64 t.id, .int .i64 t.due] 49) = wa := ⟨_, rfl⟩
  have ba : Below W.heap.size W wa := by rw [← hwa]; exact below_box _ _
  have hza := ba.size
  have hrowa := own_same hrow fun g hg => ba.block g (hrow.lt g hg).2
  have hia : TS wa (.slice (some ⟨W.heap.size, 0, none⟩) 1 1) [t] := by rw [← hwa]; exact ts_one W t 49
  obtain ⟨v', w4, hrun, hrow4, hg4⟩ := run_append_tm wa 26 H _ _ xs [t] hrowa hia (by simp; omega) (by omega)
  obtain ⟨p', q', c', rfl⟩ := own_slice hrow4
  have hz4 := hg4.size
  have hlow : ∀ r, r < H → some r ≠ (Value.slice p q c).ownBlock := fun r hr e => by have := (hrow.lt r e.symm).1; omega
  have hk4 : ∀ r, r < H → w4.heap[r]? = W.heap[r]? := fun r hr => (hg4.block r (by omega) (hlow r hr)).trans (ba.block r (by omega))
  have hs : ∀ r, r ≠ w.heap.size → (w4.setCell ⟨w.heap.size, 0, none⟩ (.slice p' q' c')).heap[r]? = w4.heap[r]? := fun r hr => Below.heap_setCell _ _ _ _ hr
  have hc4 := (hk4 w.heap.size (by omega)).trans hc
  have hzs : (w4.setCell ⟨w.heap.size, 0, none⟩ (.slice p' q' c')).heap.size = w4.heap.size := by simp [World.setCell]
  refine ⟨p, q, c, p', q', c', w4, one15 hc, by rw [hwa]; exact hrun, ⟨one15 hc4, ?_⟩, ⟨F.keep h.clk fun g hg => (hs g (by have := h.hM g hg; omega)).trans (hk4 g (by have := h.hM g hg; omega)), (hs B (by omega)).trans ((hk4 B (by omega)).trans h.box), ⟨p', q', c', heap_set _ hc4, own_same hrow4 fun g hg => hs g (by have := (hrow4.lt g hg).1; omega)⟩, ?_, h3, h.hM⟩, fun r hr hrH => (hs r (by omega)).trans (hk4 r hrH), by omega⟩
  · simp [World.frozen?, hc4]
  · have hbz := h.below.size
    exact ⟨(hg4.os.trans ba.os).trans h.below.os, (hg4.tape.trans ba.tape).trans h.below.tape, (hg4.output.trans ba.output).trans h.below.output, by omega, fun r hr => (hs r (by omega)).trans ((hk4 r (by omega)).trans (h.below.block r hr))⟩
/-- Between two rounds. -/
def TmR (C : Nat → Cs → (Nat → Prop) → World → Prop) (w : World) (R : Nat) (x : Cs) (M : Nat → Prop) (B D H k : Nat) (W : World) : Prop := TmI C w R x M B (max H (D + 2)) (x.l.take k) W
/-- What is answered. -/
def TmQ (w : World) (l : List Tm) (e : Ending) (w' : World) : Prop := ∃ p c, e = .returned (.slice p l.length c) ∧ TS w' (.slice p l.length c) l ∧ Below w.heap.size w w'
theorem TmQ.of (F : Forms15 C) {w : World} {R : Nat} {x : Cs} {M : Nat → Prop} {B D H : Nat} {W w' : World} (h : TmI C w R x M B H x.l W) {p : Option Addr} {n c : Nat} (hc : W.cell? ⟨w.heap.size, 0, none⟩ = some (.slice p n c)) (hb : But D W w') (hD : B < D) (hH : D + 2 ≤ H) : TmQ w x.l (.returned (.slice p n c)) w' := by
  have h' := h.but F hb hD hH h.below.size
  obtain ⟨p', n', c', hc', hrow'⟩ := h.cell
  have := one15 hc'
  rw [hc] at this
  cases this
  have hrow := own_same hrow' fun g hg => hb.block g (hrow'.lt g hg).2 (by have := (hrow'.lt g hg).1; omega) (by have := (hrow'.lt g hg).1; omega)
  have hrs : TS w' (.slice p n c) x.l := RS.of_own hrow
  obtain ⟨h0, p', c', e, h3⟩ := id hrs
  cases e
  exact ⟨p, c, rfl, hrs, h'.below⟩

theorem neq_fn15 (f : Fn) (a b : Array Value) (w : World) : (binOp .neq 54 (.func f a b) Value.nilFunc).run Try.prog w = .ok (.bool true) w := by
  rfl

attribute [local go_sem] Oper.semAt_some
set_option maxHeartbeats 4000000 in
set_option maxRecDepth 100000 in
theorem timers_any (F : Forms15 C) {R : Nat} {x : Cs} {M : Nat → Prop} (w : World) (h : C R x M w) (hok : Ok x) (hl : x.l.length ≤ 100000) : Calls Try.prog 19 #[.pointer (some ⟨R, 0, none⟩)] w (TmQ w x.l) := by
  have HF := Lib.hid (And.intro F (And.intro h (And.intro hok hl)))
  have b1 := below_box w (.cells #[.slice none 0 0] 26)
  have HT := Lib.hid (F.timers (w.alloc (.cells #[.slice none 0 0] 26)) (F.below h b1))
  have B1 := Lib.hid b1
  clear h hok hl F b1
  have hnf := neq_fn15
  refine calls_of_marks Try.func19 rfl ?_
  simp only [Try.ntmps19, List.size_toArray, List.length_cons, List.length_nil, Nat.reduceAdd, Nat.reduceSub, Array.replicate_succ, Array.replicate_zero, List.push_toArray, List.append_toArray, List.nil_append, List.cons_append]
  go_wp2_with fail
  refine HT.out.mono ?_
  rintro e w2 ⟨B, rfl, hB, hBz, hb2⟩
  have hz2 := hb2.size
  simp at hBz hz2
  have hg0 := (hb2.block w.heap.size (by simp)).trans (heap_alloc_new w (.cells #[.slice none 0 0] 26))
  have hB2 : B < w2.heap.size := (Array.getElem?_eq_some_iff.1 hB).1
  have HI := Lib.hid (fun H => TmI.mk (C := C) (w := w) (H := H) (xs := []) (HF.out.1.keep HF.out.2.1 fun g hg => by have := HF.out.1.lt HF.out.2.1 g hg; exact (hb2.block g (by simp; omega)).trans (B1.out.block g (by omega))) hB ⟨none, 0, 0, hg0, World.ownsRow_nil _ _ _ _⟩ (ahead B1.out hb2) (by omega) (HF.out.1.lt HF.out.2.1))
  clear hb2 HT hg0 B1 hB
  go_wp2_with fail
  clear hnf
  refine wp_range (wpIn_rangeH (gf := 22) rfl (enters_of Try.func22 (by kernel_rfl) rfl) (HF.out.1.seq R x M B HF.out.2.2.1 (by have := HF.out.2.2.2; omega)) (fun k y hy => ?_)
    (TmR C w R x M B w2.heap.size) (fun H co k W => False) ?_ (fun _ _ _ _ _ h _ => h) (fun A hA => ⟨hA.box, hA.clk⟩) (fun H => by have := HI.out (max H (w2.heap.size + 2)); simpa [TmR] using this) ?round ?done ?stop)
  · rw [List.getElem?_map] at hy
    obtain ⟨t, -, rfl⟩ := Option.map_eq_some_iff.1 hy
    rfl
  · rintro H k A B' hA hb
    exact TmI.but HF.out.1 hA hb (by omega) (Nat.le_max_right _ _) hA.below.size
  case round =>
    rintro H k y W hy - hH hHW
    rw [List.getElem?_map] at hy
    obtain ⟨t, ht, rfl⟩ := Option.map_eq_some_iff.1 hy
    obtain ⟨hkl, hke⟩ := List.getElem?_eq_some_iff.1 ht
    have HT := Lib.hid (show x.l.take (k + 1) = x.l.take k ++ [t] by rw [List.take_add_one, ht]; rfl)
    have hm1 : (x.l.take k).length ≤ 1000000 := by have := HF.out.2.2.2; simp; omega
    have HM := Lib.hid hm1
    clear ht hke hkl hm1 HI
    gi_wp2_with fail
    first | (refine ⟨trivial, ?_⟩; rintro W2 hi hsz) | rintro W2 hi hsz
    have hi2 : TmI C w R x M B H (x.l.take k) W2 := by have : TmI C w R x M B (max H (w2.heap.size + 2)) (x.l.take k) W2 := hi; rwa [Nat.max_eq_left hH] at this
    obtain ⟨p, q, c, p', q', c', w4, f0, f1, ⟨f2, f3⟩, f4, f5, f6⟩ := hi2.step HF.out.1 t HM.out (by omega) hsz
    have HR := Lib.hid f1
    have HE := Lib.hid (And.intro f4 (And.intro f5 f6))
    have HZ := Lib.hid (And.intro hH hsz)
    obtain ⟨id, due⟩ := t
    clear f1 f4 f5 f6 hi hi2 hsz hHW
    gi_wp2_with (gi_at_builtin; refine wpListIn_append_run rfl (.tmp 14) (.tmp 18) 26 rfl _ _ _ _ rfl rfl HR.out ?_)
    refine ⟨HeldH.of_all HZ.out.1 HE.out.2.2 (fun r h0 h1 => HE.out.2.1 r (by omega) h1), ?_⟩
    show TmI C w R x M B (max H (w2.heap.size + 2)) (x.l.take (k + 1)) _
    rw [Nat.max_eq_left HZ.out.1, HT.out]
    exact HE.out.1
  case done =>
    rintro H W hi hD
    have hi2 : TmI C w R x M B (max H (w2.heap.size + 2)) x.l W := by have : TmI C w R x M B (max H (w2.heap.size + 2)) (x.l.take (x.l.map tmA).length) W := hi; rwa [List.length_map, List.take_length] at this
    obtain ⟨p, q, c, hc, -⟩ := hi2.cell
    have e1 := one15 hc
    have HX := Lib.hid (And.intro hi2 e1)
    clear hi hi2 hc HI
    go_wp2_with fail
    refine left_mark rfl hD (results_tmp rfl _ _ _) ?_ (.inl rfl)
    exact TmQ.of HF.out.1 HX.out.1 HX.out.2 (But.putObj _ _ (.inl rfl) _) hB2 (Nat.le_max_right _ _)
  case stop =>
    rintro H co k W - hi hD
    exact hi.elim
end

end Go.Proofs.Ytcmkdeejofoibaa
