/- A decoder is handed bytes. -/
import Derived.Test.YtjkccacpffikbaaGreatDoorDecStand
namespace Go.Proofs.YtjkccacpffikbaaGreatDoor
open Go.ChangeShapes Go.WideShapes Go.ChangeAt Go.RowKit
open Oc Fl Bk Bd Dk
set_option linter.unusedVariables false
set_option maxRecDepth 100000

theorem take_le13 (l : Lim) (c : UInt8) (d : Ds) : (takeD l c d).1 ≤ 13 := by
  unfold takeD digitD digitMoreD extD sizeEndD onlyD beginD nameD textD lineEndD keepD failD
  split <;> (try unfold digitD) <;> (try unfold extD) <;> (try unfold keepD) <;> (repeat' split) <;> simp [failD]

/-- k bytes are behind. -/
structure PutAt (R : Nat) (l : Lim) (x : St × Nat × Nat) (d0 : Ds) (lv0 gv0 : Value) (T : List UInt8) (w : World) (k : Nat) (y : St × Nat × Nat) (d : Ds) (lv gv dv : Value) (D : List UInt8) (wr : World) : Prop where
  da : DA R l d (tkAt d.wh) lv gv wr
  mv : Moves (mine R lv0 gv0) (mine R lv gv) w wr
  core : Core l y d
  pos : y.2.1 = x.2.1 + k
  dat : y.1.data = x.1.data ++ D
  con : cont l x T = cont l y (T.drop k)
  own : wr.ownsRow w.heap.size 5 1 dv D.length (bv D)
  apart : ∀ g, dv.ownBlock = some g → ¬ mine R lv gv g
  tk : d.taken = d0.taken
  gi : d.given = d0.given
  le : k ≤ T.length
  dl : D.length ≤ k
  low : 0 < w.heap.size

section
variable {R : Nat} {l : Lim} {x : St × Nat × Nat} {d0 : Ds} {lv0 gv0 : Value} {T : List UInt8} {w : World} {k : Nat} {d : Ds} {lv gv dv : Value} {D : List UInt8} {wr : World}

theorem PutAt.take {s : St} {i : Nat} (h : PutAt R l x d0 lv0 gv0 T w k (s, i, 4) d lv gv dv D wr) (h3 : s.place ≠ 3) {c : UInt8} (hc : T[k]? = some c) {lv1 gv1 : Value} {w1 w2 : World}
    (m1 : Moves (mine R lv gv) (mine R lv1 gv1) wr w1) (h2 : DA R l { (takeD l c d).2 with wh := (takeD l c d).1 } (tkAt (takeD l c d).1) lv1 gv1 w2) (m2 : Moves (mine R lv1 gv1) (mine R lv1 gv1) w1 w2) :
    ∃ y, PutAt R l x d0 lv0 gv0 T w (if (takeD l c d).1 ≠ 0 then k + 1 else k) y (stood (takeD l c d)) lv1 gv1 dv D w2 ∧ ((takeD l c d).1 = 0 → y.2.2 ≠ 4) := by
  obtain ⟨t1, t2, t3, t4⟩ := h.core.take h3 c
  have hlt := (List.getElem?_eq_some_iff.1 hc).1
  have hdr := drop_some hc
  have mm := m1.trans m2
  have hown : w2.ownsRow w.heap.size 5 1 dv D.length (bv D) := own_same h.own fun g hg => mm.block g (h.own.lt g hg).2 (h.apart g hg)
  have hap : ∀ g, dv.ownBlock = some g → ¬ mine R lv1 gv1 g := fun g hg hm => by
    rcases mm.own g hm with h' | h'
    · exact h.apart g hg h'
    · have := (h.own.lt g hg).2; omega
  have hpos := h.pos
  have hdl := h.dl
  simp only at hpos
  by_cases h0 : (takeD l c d).1 = 0
  · obtain ⟨y, q1, q2, q3, q4, q5⟩ := t2 h0
    rw [if_neg (by simp [h0])]
    refine ⟨y, ⟨h2, h.mv.trans mm, q1, by rw [q2, hpos], by rw [q3, h.dat], ?_, hown, hap, t3.trans h.tk, t4.trans h.gi, h.le, hdl, h.low⟩, fun _ => q4⟩
    rw [h.con, hdr, q5, cont_end _ q4]
  · obtain ⟨y, q1, q2, q3, q4⟩ := t1 h0
    rw [if_pos h0]
    refine ⟨y, ⟨h2, h.mv.trans mm, q1, by rw [q2, hpos]; omega, by rw [q3, h.dat], ?_, hown, hap, t3.trans h.tk, t4.trans h.gi, hlt, by omega, h.low⟩, fun h' => absurd h' h0⟩
    rw [h.con, hdr, q4]

theorem PutAt.ran {s : St} {i : Nat} (h : PutAt R l x d0 lv0 gv0 T w k (s, i, 4) d lv gv dv D wr) (h3 : s.place = 3) (hk : k < T.length) {w1 w2 : World} {v' : Value} {m : Nat} (hm : m = min d.left (T.drop k).length)
    (h1 : DA R l (ranD m d) (tkAt (ranD m d).wh) lv gv w1) (m1 : Moves (mine R lv gv) (mine R lv gv) wr w1) (r1 : w2.ownsRow w.heap.size 5 1 v' (D ++ (T.drop k).take m).length (bv (D ++ (T.drop k).take m)))
    (r2 : w1.grownBy w2 dv.ownBlock) (r3 : ∀ g, v'.ownBlock = some g → dv.ownBlock = some g ∨ w1.heap.size ≤ g) :
    ∃ y, PutAt R l x d0 lv0 gv0 T w (k + m) y (ranD m d) lv gv v' (D ++ (T.drop k).take m) w2 ∧ 0 < m ∧ k + m ≤ T.length := by
  obtain ⟨m', y, q1, q2, q3, q4, q5, q6⟩ := h.core.run h3 (T.drop k) (by intro h0; have := congrArg List.length h0; simp at this; omega)
  rw [← hm] at q1
  subst q1
  have hll : (T.drop k).length = T.length - k := by simp
  have hmk : k + m' ≤ T.length := by omega
  have hpos := h.pos
  simp only at hpos
  have hw1 := m1.size
  have hw0 := h.mv.size
  have hdw : ∀ g, dv.ownBlock = some g → w.heap.size ≤ g ∧ g < wr.heap.size := fun g hg => h.own.lt g hg
  have hsame : ∀ g, mine R lv gv g → w2.heap[g]? = w1.heap[g]? := fun g hg => r2.block g (h1.mine_lt g hg).2 (fun e => h.apart g e.symm hg)
  refine ⟨y, ⟨h1.moved hsame (h1.spans.grown r2 fun g hg => ?_), ⟨r2.os.trans (m1.os.trans h.mv.os), r2.tape.trans (m1.tape.trans h.mv.tape), r2.output.trans (m1.output.trans h.mv.output), Nat.le_trans hw0 (Nat.le_trans hw1 r2.size), fun g hg hn => ?_, h.mv.own⟩, q3, by rw [q4, hpos]; omega, by rw [q5, ← List.append_assoc, ← h.dat], ?_, r1, fun g hg hn => ?_, h.tk, h.gi, hmk, ?_, h.low⟩, q2, hmk⟩
  · have := (hdw g hg).1
    have := h.low
    omega
  · exact (r2.block g (by omega) (fun e => by have := (hdw g e.symm).1; omega)).trans ((m1.block g (by omega) (fun hh => by
      rcases h.mv.own g hh with h' | h'
      · exact hn h'
      · omega)).trans (h.mv.block g hg hn))
  · rw [h.con, q6, List.drop_drop]
  · rcases r3 g hg with h' | h'
    · exact h.apart g h' hn
    · have := (h1.mine_lt g hn).2; omega
  · have := h.dl
    simp; omega

theorem Core.counts {l : Lim} {y : St × Nat × Nat} {d : Ds} (h : Core l y d) (a b : Nat) : Core l y { d with taken := a, given := b } := by
  rcases h with ⟨h1, h2, h3⟩ | ⟨h1, h2, h3⟩ | h
  · refine .inl ⟨h1, h2, ?_⟩
    obtain ⟨a1, a2, a3, a4, a5, a6, a7, a8, a9, a10, a11, a12, a13, a14, a15, a16, a17, a18, a19, a20, a21, a22, a23⟩ := h3
    exact ⟨a1, a2, a3, a4, a5, a6, a7, a8, a9, a10, a11, a12, a13, a14, a15, a16, a17, a18, a19, a20, a21, a22, a23⟩
  · refine .inr (.inl ⟨h1, h2, ?_⟩)
    obtain ⟨a1, a2, a3, a4, a5, a6, a7, a8, a9, a10, a11, a12, a13, a14, a15, a16, a17, a18, a19, a20, a21, a22, a23⟩ := h3
    exact ⟨a1, a2, a3, a4, a5, a6, a7, a8, a9, a10, a11, a12, a13, a14, a15, a16, a17, a18, a19, a20, a21, a22, a23⟩
  · exact .inr (.inr h)

/-- What a piece leaves. -/
def PutQ (R : Nat) (l : Lim) (x : St × Nat × Nat) (lv0 gv0 : Value) (T : List UInt8) (w : World) (e : Ending) (w' : World) : Prop :=
  ∃ (d : Ds) (lv gv : Value) (p : Option Addr) (c : Nat) (D : List UInt8) (n : Nat), e = .returned (.tuple #[.slice p D.length c, .int .i64 (n : Int), .int .i64 ((told (cont l x T).2.2 : Nat) : Int)]) ∧
    DA R l d (tkAt d.wh) lv gv w' ∧ Moves (mine R lv0 gv0) (mine R lv gv) w w' ∧ Hold l (cont l x T) d ∧ (cont l x T).2.1 = x.2.1 + n ∧ n ≤ T.length ∧ (cont l x T).1.data = x.1.data ++ D ∧ RD w' (.slice p D.length c) D ∧
    (∀ g, (Value.slice p D.length c).ownBlock = some g → w.heap.size ≤ g ∧ g < w'.heap.size ∧ ¬ mine R lv gv g)

theorem PutAt.finish {y : St × Nat × Nat} (h : PutAt R l x d0 lv0 gv0 T w k y d lv gv dv D wr) (hx : Hold l x d0) (he : y.2.2 ≠ 4 ∨ k = T.length) {p : Option Addr} {q c : Nat} (hdv : dv = .slice p q c) (nq : Nat) :
    PutQ R l x lv0 gv0 T w (.returned (.tuple #[.slice p q c, .int .i64 (k : Int), .int .i64 (d.wrong : Int)])) (((wr.setCell ⟨R, 12, none⟩ (.int .i64 ((d.taken + k : Nat) : Int))).setCell ⟨R, 13, none⟩ (.int .i64 ((d.given + q : Nat) : Int))).drewN nq) := by
  subst hdv
  have hq : q = D.length := by
    obtain ⟨p', c', e, _⟩ := own_len9 h.own
    cases e
    rfl
  subst hq
  have hy : cont l x T = y := by
    rw [h.con]
    rcases he with he | rfl
    · exact cont_end _ he
    · rw [List.drop_length]; exact cont_nil l y
  have h1 := h.da.set 12 (.int .i64 ((d.taken + k : Nat) : Int)) (d' := { d with taken := d.taken + k }) (tv' := tkAt d.wh) rfl rfl rfl
  have h2 := h1.set 13 (.int .i64 ((d.given + D.length : Nat) : Int)) (d' := { d with taken := d.taken + k, given := d.given + D.length }) (tv' := tkAt d.wh) rfl rfl rfl
  have h3 := h2.below (below_drewN (Below.refl _ _) nq)
  have mm := (Moves.set R lv gv wr 12 (.int .i64 ((d.taken + k : Nat) : Int))).trans (Moves.set R lv gv _ 13 (.int .i64 ((d.given + D.length : Nat) : Int)))
  have m3 := mm.trans (Moves.of_below (M := mine R lv gv) (below_drewN (Below.refl _ _) nq))
  have ho := own_same h.own fun g hg => m3.block g (h.own.lt g hg).2 (h.apart g hg)
  have hxd := hx.data
  have hdl := h.dl
  have hpos := h.pos
  unfold PutQ
  rw [hy]
  refine ⟨_, lv, gv, p, c, D, k, by rw [h.core.wrong], h3, h.mv.trans m3, ⟨Core.counts h.core _ _, ?_, ?_, ?_⟩, hpos, h.le, h.dat, RD.of_own ho, fun g hg => ⟨(h.own.lt g hg).1, ?_, h.apart g hg⟩⟩
  · show d.taken + k = y.2.1
    rw [hpos, h.tk, hx.taken]
  · show d.given + D.length = y.1.data.length
    rw [h.dat, h.gi, hx.given, List.length_append]
  · rw [h.dat, List.length_append]; omega
  · have := (h.own.lt g hg).2
    have := m3.size
    omega
end

end Go.Proofs.YtjkccacpffikbaaGreatDoor
