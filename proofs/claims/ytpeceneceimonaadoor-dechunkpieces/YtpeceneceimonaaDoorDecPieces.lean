/- A decoder, what the document read, and all bytes that were taken, side by side in memory. -/
import Derived.Test.YtpeceneceimonaaDoorDecBytes
namespace Go.Proofs.YtpeceneceimonaaDoor
open Go.ChangeShapes Go.WideShapes Go.ChangeAt Go.RowKit
open Oc Fl Bk Bd Dk
set_option linter.unusedVariables false
set_option maxRecDepth 100000

theorem fs_lt9 {W : World} {v : Value} {xs : List Fld} (h : FS W v xs) (hx : xs ≠ []) {g : Nat} (hg : v.ownBlock = some g) : g < W.heap.size := by
  obtain ⟨h0, p, cap, rfl, h1, h2, h3, h4⟩ := h
  cases p with
  | none => simp [Value.ownBlock] at hg
  | some ad =>
    cases xs with
    | nil => exact absurd rfl hx
    | cons f xs =>
      have := World.block_lt_of_cell? W _ (h4 ad rfl 0 (.string f.name) rfl)
      rw [add_block] at this
      simp [Value.ownBlock] at hg
      omega
theorem fs_keep9 {W W' : World} {v : Value} {xs : List Fld} (h : FS W v xs) (hk : xs ≠ [] → ∀ g, v.ownBlock = some g → W'.heap[g]? = W.heap[g]?) : FS W' v xs := by
  by_cases hx : xs = []
  · subst hx
    obtain ⟨h0, p, cap, rfl, h1, h2, h3, h4⟩ := h
    exact ⟨h0, p, cap, rfl, h1, h2, h3, fun ad hp i u hu => by simp [fv] at hu⟩
  · exact RS.keep h fun g hg _ => hk hx g hg

/-- Two appends, one behind the other, onto an empty row. -/
theorem own_two9 {u v : Value} {xs ys : List UInt8} (w : World) (hu : RD w u xs) (hv : RD w v ys) (hx : xs.length ≤ 100000) (hy : ys.length ≤ 100000) :
    ∃ p1 l1 c1 w1 p2 c2 w2, (Builtin.append_ #[26, 26] 26 #[.slice (some ⟨w.heap.size, 0, none⟩) 0 0, u]).run Tryd.prog (w.alloc (.cells #[] 5)) = .ok (.slice p1 l1 c1) w1 ∧
      (Builtin.append_ #[26, 26] 26 #[.slice p1 l1 c1, v]).run Tryd.prog w1 = .ok (.slice p2 (xs ++ ys).length c2) w2 ∧ RD w2 (.slice p2 (xs ++ ys).length c2) (xs ++ ys) ∧ Below w.heap.size w w1 ∧ Below w.heap.size w w2 := by
  have hown : (w.alloc (.cells #[] 5)).ownsRow w.heap.size 5 1 (.slice (some ⟨w.heap.size, 0, none⟩) 0 0) 0 (bv []) := World.ownsRow_made w #[] 0 (Nat.le_refl _) (by decide) rfl
  have b0 : Below w.heap.size w (w.alloc (.cells #[] 5)) := below_box _ _
  obtain ⟨v1, w1, r0, r1, r2⟩ := run_append_rd (w.alloc (.cells #[] 5)) 26 w.heap.size _ _ 0 [] xs hown (hu.below b0) (by simp; omega) (by simp)
  have b1 : Below w.heap.size w w1 := b0.grown r2 (by simp) (fun r e => by cases e; exact Nat.le_refl _)
  obtain ⟨v2, w2, s0, s1, s2⟩ := run_append_rd w1 26 w.heap.size _ _ _ _ ys r1 (hv.below b1) (by simp; omega) b1.size
  have b2 : Below w.heap.size w w2 := b1.grown s2 b1.size (fun k hk => (r1.lt k hk).1)
  obtain ⟨p1, l1, c1, rfl⟩ := own_slice r1
  have hrd : RD w2 v2 (xs ++ ys) := by simpa using RD.of_own s1
  obtain ⟨p2, c2, rfl, -⟩ := id hrd
  exact ⟨p1, l1, c1, w1, p2, c2, w2, r0, s0, hrd, b1, b2⟩

/-- Nothing of a slice, cut out of its end. -/
theorem rd_cut_nil {p : Option Addr} {n c : Nat} (h1 : n ≤ c) (h2 : c ≤ maxLen) (h3 : p = none → c = 0) (W : World) : RD W (sliced p n n c 1) [] := by
  unfold sliced
  by_cases hc : c = n
  · rw [if_pos hc]
    exact ⟨p, c - n, by simp, Nat.zero_le _, by omega, fun hp => by have := h3 hp; omega, fun ad hp i b hb => by simp at hb⟩
  · rw [if_neg hc]
    rw [show n - n = ([] : List UInt8).length by simp]
    refine ⟨_, c - n, rfl, Nat.zero_le _, by omega, fun hp => ?_, fun ad hp i b hb => by simp at hb⟩
    cases p with
    | none => have := h3 rfl; omega
    | some a => simp at hp

/-- What the document read, as cells. -/
def gotc (y : St × Nat × Nat) (dv gv : Value) : Array Value := #[.int .i64 (y.1.place : Int), .int .u64 (y.1.n : Int), .int .i64 (y.1.count : Int), .int .i64 (y.1.lines : Int), .int .i64 (y.1.size : Int), .string (arr y.1.text), dv, gv, .int .i64 (y.2.1 : Int), .int .i64 (y.2.2 : Int)]

/-- The decoder's reading came to yd; the document's, in block X, to yx; A is in av. -/
structure PA (R : Nat) (l : Lim) (X : Nat) (wb : World) (M : Nat → Prop) (yd yx : St × Nat × Nat) (A : List UInt8) (av dv gv : Value) (W : World) : Prop where
  below : Below wb.heap.size wb W
  dec : DecAt R l yd M W
  low : ∀ k, M k → wb.heap.size ≤ k
  blk : W.heap[X]? = some (.cells (gotc yx dv gv) 37 (0, 0))
  fds : FS W gv yx.1.fields
  dsl : ∃ p c, dv = .slice p yx.1.data.length c ∧ yx.1.data.length ≤ c ∧ c ≤ maxLen ∧ (p = none → c = 0)
  gok : yx.1.fields ≠ [] → ∀ g, gv.ownBlock = some g → X < g ∧ ¬ M g ∧ av.ownBlock ≠ some g
  own : W.ownsRow (X + 1) 5 1 av A.length (bv A)
  aown : ∀ g, av.ownBlock = some g → ¬ M g
  mx : ¬ M X
  xlow : wb.heap.size ≤ X
  glo : 0 < wb.heap.size

section
variable {R : Nat} {l : Lim} {X : Nat} {wb : World} {M M1 : Nat → Prop} {yd yx y1 : St × Nat × Nat} {A : List UInt8} {av dv gv : Value} {W W1 : World}
theorem PA.xlt (h : PA R l X wb M yd yx A av dv gv W) : X < W.heap.size := (Array.getElem?_eq_some_iff.1 h.blk).1
theorem PA.to (h : PA R l X wb M yd yx A av dv gv W) (hb : Below W.heap.size W W1) : PA R l X wb M yd yx A av dv gv W1 :=
  ⟨ahead h.below hb, h.dec.below hb, h.low, (hb.block X h.xlt).trans h.blk, FS.below h.fds hb, h.dsl, h.gok, own_same h.own fun g hg => hb.block g (h.own.lt g hg).2, h.aown, h.mx, h.xlow, h.glo⟩
theorem PA.put (h : PA R l X wb M yd yx A av dv gv W) (hd : DecAt R l y1 M1 W1) (m1 : Moves M M1 W W1) : PA R l X wb M1 y1 yx A av dv gv W1 := by
  have hz := h.below.size
  refine ⟨h.below.trans (m1.below hz h.low), hd, fun k hk => ?_, (m1.block X h.xlt h.mx).trans h.blk, fs_keep9 h.fds fun hx g hg => m1.block g (fs_lt9 h.fds hx hg) (h.gok hx g hg).2.1, h.dsl, fun hx g hg => ⟨(h.gok hx g hg).1, fun hm => ?_, (h.gok hx g hg).2.2⟩,
    own_same h.own fun g hg => m1.block g (h.own.lt g hg).2 (h.aown g hg), fun g hg hm => ?_, fun hm => ?_, h.xlow, h.glo⟩
  · rcases m1.own k hk with h' | h'
    · exact h.low k h'
    · omega
  · rcases m1.own g hm with h' | h'
    · exact (h.gok hx g hg).2.1 h'
    · have := fs_lt9 h.fds hx hg; omega
  · rcases m1.own g hm with h' | h'
    · exact h.aown g hg h'
    · have := (h.own.lt g hg).2; omega
  · rcases m1.own X hm with h' | h'
    · exact h.mx h'
    · have := h.xlt; omega
/-- The document read anew. -/
theorem PA.scan {W4 : World} {pd pg : Option Addr} {nd cd ng cg : Nat} (h : PA R l X wb M y1 yx A av dv gv W) (hb : Below W.heap.size W W4) (hD : RD W4 (.slice pd nd cd) y1.1.data) (hF : FS W4 (.slice pg ng cg) y1.1.fields) (hg0 : ∀ g, (Value.slice pg ng cg).ownBlock = some g → W.heap.size ≤ g)
    (hs : ∃ pp nn cc qq mm kk, dv = .slice pp nn cc ∧ gv = .slice qq mm kk) :
    PA R l X wb M y1 y1 A av (.slice pd nd cd) (.slice pg ng cg) (over10 W4 X (.int .i64 (y1.1.place : Int)) (.int .u64 (y1.1.n : Int)) (.int .i64 (y1.1.count : Int)) (.int .i64 (y1.1.lines : Int)) (.int .i64 (y1.1.size : Int)) (.string (arr y1.1.text)) (.slice pd nd cd) (.slice pg ng cg) (.int .i64 (y1.2.1 : Int)) (.int .i64 (y1.2.2 : Int))) ∧
    RD (over10 W4 X (.int .i64 (y1.1.place : Int)) (.int .u64 (y1.1.n : Int)) (.int .i64 (y1.1.count : Int)) (.int .i64 (y1.1.lines : Int)) (.int .i64 (y1.1.size : Int)) (.string (arr y1.1.text)) (.slice pd nd cd) (.slice pg ng cg) (.int .i64 (y1.2.1 : Int)) (.int .i64 (y1.2.2 : Int))) (.slice pd nd cd) y1.1.data := by
  obtain ⟨pp, nn, cc, qq, mm, kk, rfl, rfl⟩ := hs
  have hX4 := (hb.block X h.xlt).trans h.blk
  unfold gotc at hX4
  have ho : ∀ g, g ≠ X → _ := fun g hg => over10_other W4 X (.int .i64 (y1.1.place : Int)) (.int .u64 (y1.1.n : Int)) (.int .i64 (y1.1.count : Int)) (.int .i64 (y1.1.lines : Int)) (.int .i64 (y1.1.size : Int)) (.string (arr y1.1.text)) (.slice pd nd cd) (.slice pg ng cg) (.int .i64 (y1.2.1 : Int)) (.int .i64 (y1.2.2 : Int)) hg
  have h4 := h.to hb
  have hz := hb.size
  have hxw := h.xlt
  have hD2 := rd_apart hD hX4 (st10_u8 _ _ _ _ _ _ _ _ _ _ _ _ _ _) ho
  refine ⟨⟨over10_below h4.below h.xlow _ _ _ _ _ _ _ _ _ _, h4.dec.moved (fun k hk => ho k (fun e => h.mx (e ▸ hk))) ?_, h.low, over10_row hX4 _ _ _ _ _ _ _ _ _ _, fs_apart hF hX4 (st10_two _ _ _ _ _ _ _ _ _ _ _ _ _ _) ho, ?_, fun hx g hg => ⟨?_, fun hm => ?_, fun ha => ?_⟩,
    own_same h4.own fun g hg => ho g (by have := (h4.own.lt g hg).1; omega), h.aown, h.mx, h.xlow, h.glo⟩, hD2⟩
  · have hsp := h4.dec.spans
    have hGX : 0 < X := Nat.lt_of_lt_of_le h.glo h.xlow
    unfold over10 over8
    exact ((((((((((hsp.set hGX).set hGX).set hGX).set hGX).set hGX).set hGX).set hGX).set hGX).set hGX).set hGX)
  · obtain ⟨p', c', e, h1, h2, h3, _⟩ := hD
    cases e
    exact ⟨_, _, rfl, h1, h2, h3⟩
  · have := hg0 g hg; omega
  · have := hg0 g hg; have := (h.dec.lt hm).2; omega
  · have := hg0 g hg; have := (h.own.lt g ha).2; omega
/-- Bytes come behind all. -/
theorem PA.more {v' : Value} {B : List UInt8} (h : PA R l X wb M yd yx A av dv gv W) (r1 : W1.ownsRow (X + 1) 5 1 v' (A ++ B).length (bv (A ++ B))) (r2 : W.grownBy W1 av.ownBlock) (r3 : ∀ g, v'.ownBlock = some g → av.ownBlock = some g ∨ W.heap.size ≤ g) :
    PA R l X wb M yd yx (A ++ B) v' dv gv W1 := by
  have hz := h.below.size
  have hxw := h.xlt
  have hxl := h.xlow
  have hlow : 0 < X := Nat.lt_of_lt_of_le h.glo h.xlow
  have hal : ∀ g, av.ownBlock = some g → X < g ∧ g < W.heap.size := fun g hg => by have := h.own.lt g hg; omega
  refine ⟨⟨r2.os.trans h.below.os, r2.tape.trans h.below.tape, r2.output.trans h.below.output, Nat.le_trans hz r2.size, fun k hk => (r2.block k (by omega) (fun e => by have := (hal k e.symm).1; omega)).trans (h.below.block k hk)⟩,
    h.dec.moved (fun k hk => r2.block k (h.dec.lt hk).2 (fun e => h.aown k e.symm hk)) (h.dec.spans.grown r2 fun k hk => by have := (hal k hk).1; omega), h.low, (r2.block X hxw (fun e => by have := (hal X e.symm).1; omega)).trans h.blk,
    fs_keep9 h.fds fun hx g hg => r2.block g (fs_lt9 h.fds hx hg) (fun e => (h.gok hx g hg).2.2 e.symm), h.dsl, fun hx g hg => ⟨(h.gok hx g hg).1, (h.gok hx g hg).2.1, fun hv => ?_⟩, r1, fun g hg hm => ?_, h.mx, hxl, h.glo⟩
  · rcases r3 g hv with h' | h'
    · exact (h.gok hx g hg).2.2 h'
    · have := fs_lt9 h.fds hx hg; omega
  · rcases r3 g hg with h' | h'
    · exact h.aown g h' hm
    · have := (h.dec.lt hm).2; omega
end

end Go.Proofs.YtpeceneceimonaaDoor
